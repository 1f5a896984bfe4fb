/- The specification's CallsOf. -/
/- Names in order: the plain mathematics of lists of names with numbers. -/
/- The names of an expression, collected, sorted, each once: the specification's list. The plain mathematics. -/
/- What a rule calls: names as they come, sorted, each once, are the specification's list. The plain mathematics. -/
import Derived.Test.YtkmkfpgaehgonaaGreatDoorXPure
import Derived.Test.YtkmkfpgaehgonaaGreatDoorXFree
import Derived.BigQuiet
import Derived.Deep.Onto
import Derived.Lib.SlicesCompact
import Derived.Sort.Walk0
namespace Go.Proofs.YtkmkfpgaehgonaaGreatDoor
open Go.RowKit
set_option linter.unusedVariables false

def callsS (out : List ByteArray) : List SymD → List ByteArray
  | [] => out
  | y :: ys => callsS (if y.kind = 3 then putS out y.text else out) ys
def callsA (out : List ByteArray) : List (List SymD) → List ByteArray
  | [] => out
  | e :: es => callsA (callsS out e) es
def callsB (g : List RuleD) (r : Int) : List ByteArray := if 0 ≤ r ∧ r < (g.length : Int) then callsA [] (g.getD r.toNat default).alts else []
theorem callsS_drop (out : List ByteArray) (ys : List SymD) (j : Nat) (h : j < ys.length) : callsS out (ys.drop j) = callsS (if ys[j].kind = 3 then putS out ys[j].text else out) (ys.drop (j + 1)) := by
  rw [List.drop_eq_getElem_cons h]
  rfl
theorem callsA_drop (out : List ByteArray) (es : List (List SymD)) (j : Nat) (h : j < es.length) : callsA out (es.drop j) = callsA (callsS out es[j]) (es.drop (j + 1)) := by
  rw [List.drop_eq_getElem_cons h]
  rfl
theorem putS_one15 (ss : List ByteArray) (s : ByteArray) : (putS ss s).length ≤ ss.length + 1 := by
  have h : ∀ l : List ByteArray, (l.filter (fun t => ltS t s)).length + (l.filter (fun t => gtS t s)).length ≤ l.length := by
    intro l
    induction l with
    | nil => simp
    | cons t l ih =>
      simp only [List.filter_cons, List.length_cons]
      cases h1 : ltS t s with
      | true =>
        have h2 : gtS t s = false := by
          unfold ltS at h1
          unfold gtS
          rw [h1]
          rfl
        rw [h2]
        simp
        omega
      | false =>
        cases gtS t s
        · simp; omega
        · simp; omega
  have := h ss
  unfold putS
  simp only [List.length_append, List.length_singleton]
  omega
theorem sum_take15 (es : List (List SymD)) : ∀ i, (hi : i < es.length) → ((es.take i).map List.length).sum + es[i].length ≤ rowTot altTot es := by
  intro i hi
  have h1 : ((es.take (i + 1)).map List.length).sum = ((es.take i).map List.length).sum + es[i].length := rowTot_next List.length es i hi
  have h2 : ((es.take (i + 1)).map List.length).sum ≤ (es.map List.length).sum := by
    have e : es.map List.length = (es.take (i + 1)).map List.length ++ (es.drop (i + 1)).map List.length := by rw [← List.map_append, List.take_append_drop]
    rw [e, List.sum_append]
    omega
  have h3 : ∀ l : List (List SymD), (l.map List.length).sum ≤ (l.map altTot).sum := by
    intro l
    induction l with
    | nil => simp
    | cons e l ih =>
      simp only [List.map_cons, List.sum_cons]
      have : e.length ≤ altTot e := rowTot_len symTot e
      omega
  have h4 := h3 es
  unfold rowTot
  omega

set_option maxHeartbeats 6400000 in
set_option maxRecDepth 100000 in
theorem specCallsOf_any (v : Value) (g : List RuleD) (r : Int) (w : World) (hn : grammarTot g ≤ 1048576) (h : RowC 3 RuleE w v g) :
    Calls Tryz.prog 14 #[.agg #[v], .int .i64 r] w fun e w' => ∃ o, e = .returned o ∧ OwnB w.heap.size o (callsB g r) w' ∧ Below w.heap.size w w' := by
  obtain ⟨a, cap, rfl⟩ := h.slice
  have B0 : Hid (Below w.heap.size w (w.alloc (.cells #[.slice a g.length cap] 28))) := (Below.refl _ _).alloc (Nat.le_refl _) _
  have HR : Hid (RowC 3 RuleE (w.alloc (.cells #[.slice a g.length cap] 28)) (.slice a g.length cap) g) := RowC.below RuleE_stable h B0.out
  have hE0 : (w.alloc (.cells #[.slice a g.length cap] 28)).cell? ⟨w.heap.size, 0, none⟩ = some (.slice a g.length cap) := box_at _ _ _ 0 _ rfl
  have HS0 : Hid ((w.alloc (.cells #[.slice a g.length cap] 28)).heap.size = w.heap.size + 1) := by rw [Hid]; simp
  have hgl : g.length ≤ 1048576 := Nat.le_trans (rowTot_len ruleTot g) hn
  have HIn : Hid (∀ W, _) := fun W => in_any r 0 ((g.length : Int) - 1) W
  have wk1 : IntKind.i64.wrap ((g.length : Int) - 1) = (g.length : Int) - 1 := by rw [IntKind.wrap_i64]; omega
  have HN : Hid (grammarTot g ≤ 1048576) := hn
  have HO0 : Hid (OwnB (w.heap.size + 1) (.slice (some ⟨w.heap.size + 1, 0, none⟩) 0 0) [] ((w.alloc (.cells #[.slice a g.length cap] 28)).alloc (.cells #[] 9))) := by
    have := World.ownsRow_made (base := (w.alloc (.cells #[.slice a g.length cap] 28)).heap.size) (w.alloc (.cells #[.slice a g.length cap] 28)) #[] 0 (e := 9) (size := 1) (Nat.le_refl _) (by decide) rfl
    rw [HS0.out] at this
    exact this
  have HB0 : Hid (Below (w.heap.size + 1) (w.alloc (.cells #[.slice a g.length cap] 28)) ((w.alloc (.cells #[.slice a g.length cap] 28)).alloc (.cells #[] 9))) := (Below.refl _ _).alloc (by rw [HS0.out]; exact Nat.le_refl _) _
  clear h hn
  by_cases hr : 0 ≤ r ∧ r ≤ (g.length : Int) - 1
  · obtain ⟨q, rfl⟩ : ∃ q : Nat, r = (q : Int) := ⟨r.toNat, by omega⟩
    have hq : q < g.length := by omega
    rw [decide_eq_true hr] at HIn
    have HV : Hid (callsB g (q : Int) = callsA [] g[q].alts) := by
      rw [Hid, callsB, if_pos ⟨by omega, by omega⟩, Int.toNat_natCast, List.getD_eq_getElem?_getD, List.getElem?_eq_getElem hq]
      rfl
    have hat : rowTot altTot g[q].alts ≤ 1048576 := by
      have h1 := rowTot_mem ruleTot (List.getElem_mem hq)
      have h2 : rowTot altTot g[q].alts ≤ ruleTot g[q] := by unfold ruleTot; omega
      have h3 : rowTot ruleTot g ≤ 1048576 := HN.out
      omega
    obtain ⟨b, off, vs, rfl, _, hc, hEl⟩ := HR.out.at hq
    obtain ⟨r0, r1, rfl, hp, ha⟩ := hEl
    have n2 : (w.alloc (.cells #[.slice (some ⟨b, off, none⟩) g.length cap] 28)).cell? ⟨b, off + q * 3 + 2, none⟩ = some r1 := hc 2 (by simp)
    obtain ⟨aa, ca, rfl⟩ := ha.slice
    have HA : Hid (RowC 1 AltE (w.alloc (.cells #[.slice (some ⟨b, off, none⟩) g.length cap] 28)) (.slice aa g[q].alts.length ca) g[q].alts) := ha
    have hal : g[q].alts.length ≤ 1048576 := Nat.le_trans (rowTot_len altTot _) hat
    have HAt : Hid (rowTot altTot g[q].alts ≤ 1048576) := hat
    have i2 : (q : Int) < (g.length : Int) := by omega
    clear hr hc hp ha hat
    generalize g[q].alts = es at *
    go_enter Tryz.func14, Tryz.ntmps14
    go_wp2_with (go_at_call 26; refine (HIn.out _).mono ?_; rintro e wq ⟨rfl, hw⟩; rw [hw]; clear hw)
    generalize (w.alloc (.cells #[.slice (some ⟨b, off, none⟩) g.length cap] 28)) = w0 at *
    go_loopw [5, 6] (fun ov iv wr => ∃ (i : Nat) (out : List ByteArray), iv = .int .i64 i ∧ i ≤ es.length ∧ callsA out (es.drop i) = callsA [] es ∧ out.length ≤ ((es.take i).map List.length).sum ∧ OwnB (w.heap.size + 1) ov out wr ∧ Below (w.heap.size + 1) w0 wr) (fun _ iv _ => es.length - (intOf iv).toNat)
    case atStart => exact ⟨0, [], rfl, Nat.zero_le _, rfl, Nat.zero_le _, HO0.out, HB0.out⟩
    case round =>
      clear HO0 HB0
      obtain ⟨i, out, rfl, hi, hC, hL, hown, hbw⟩ := hrel
      obtain ⟨wa, rfl⟩ : ∃ W, W = wr := ⟨wr, rfl⟩
      have HC : Hid (callsA out (es.drop i) = callsA [] es) := hC
      have HL : Hid (out.length ≤ ((es.take i).map List.length).sum) := hL
      have HO : Hid (OwnB (w.heap.size + 1) u5 out wa) := hown
      have HB : Hid (Below w0.heap.size w0 wa) := by rw [Hid, HS0.out]; exact hbw
      have hE := cell_keep hE0 HB.out
      have n2a := cell_keep n2 HB.out
      clear hC hL hown hbw
      by_cases hlt : i < es.length
      · obtain ⟨be, oe, vse, rfl, _, hce, hEe⟩ := HA.out.at hlt
        obtain ⟨re, rfl, hsy⟩ := hEe
        have m0 : w0.cell? ⟨be, oe + i * 1 + 0, none⟩ = some re := hce 0 (by simp)
        rw [Nat.mul_one, Nat.add_zero] at m0
        have m0a := cell_keep m0 HB.out
        obtain ⟨as9, cs9, rfl⟩ := hsy.slice
        have HSy : Hid (RowC 4 SymE w0 (.slice as9 es[i].length cs9) es[i]) := hsy
        have hsm := sum_take15 es i hlt
        have HCx : Hid (callsA (callsS out es[i]) (es.drop (i + 1)) = callsA [] es) := by rw [Hid, ← callsA_drop out es i hlt]; exact HC.out
        have HLx : Hid (((es.take (i + 1)).map List.length).sum = ((es.take i).map List.length).sum + es[i].length) := rowTot_next List.length es i hlt
        have i4 : (i : Int) < (es.length : Int) := by omega
        have hat := HAt.out
        have HSm : Hid (((es.take i).map List.length).sum + es[i].length ≤ 1048576) := Nat.le_trans hsm hat
        have hyl : es[i].length ≤ 1048576 := by have := HSm.out; omega
        clear hce hsy hsm hat HC
        generalize ((es.take i).map List.length).sum = base at *
        generalize es[i] = ys at *
        go_wp2
        go_loopw [5, 8] (fun ov kv wr => ∃ (k : Nat) (o2 : List ByteArray), kv = .int .i64 k ∧ k ≤ ys.length ∧ callsS o2 (ys.drop k) = callsS out ys ∧ o2.length ≤ base + k ∧ OwnB (w.heap.size + 1) ov o2 wr ∧ Below w0.heap.size w0 wr) (fun _ kv _ => ys.length - (intOf kv).toNat)
        case atStart => exact ⟨0, out, rfl, Nat.zero_le _, rfl, HL.out, HO.out, HB.out⟩
        case round =>
          clear HL HO HB hE n2a m0a
          obtain ⟨k, o2, rfl, hk, hC, hL, hown, hbw⟩ := hrel
          obtain ⟨wb, rfl⟩ : ∃ W, W = wr := ⟨wr, rfl⟩
          have HC : Hid (callsS o2 (ys.drop k) = callsS out ys) := hC
          have HL : Hid (o2.length ≤ base + k) := hL
          have HO : Hid (OwnB (w.heap.size + 1) u5 o2 wb) := hown
          have HB : Hid (Below w0.heap.size w0 wb) := hbw
          have hE := cell_keep hE0 hbw
          have n2b := cell_keep n2 hbw
          clear hC hL hown hbw
          by_cases hkl : k < ys.length
          · obtain ⟨bs, os, vss, rfl, _, hcs, hEs⟩ := HSy.out.at hkl
            obtain ⟨rs, rfl, hxs⟩ := hEs
            have s0 : w0.cell? ⟨bs, os + k * 4, none⟩ = some (.int .i64 ys[k].kind) := hcs 0 (by simp)
            have s1 : w0.cell? ⟨bs, os + k * 4 + 1, none⟩ = some (.string ys[k].text) := hcs 1 (by simp)
            have s0b := cell_keep s0 HB.out
            have s1b := cell_keep s1 HB.out
            have HCx : Hid (callsS (if ys[k].kind = 3 then putS o2 ys[k].text else o2) (ys.drop (k + 1)) = callsS out ys) := by rw [Hid, ← callsS_drop o2 ys k hkl]; exact HC.out
            have i6 : (k : Int) < (ys.length : Int) := by omega
            have HPl : Hid ((putS o2 ys[k].text).length ≤ base + (k + 1)) := by
              have h1 := putS_one15 o2 ys[k].text
              have h2 := HL.out
              rw [Hid]
              omega
            have HPu : Hid (∀ V : World, SRow V u5 o2 → _) := fun V hV => l03Put_any u5 o2 ys[k].text V (by have h1 := HL.out; have h2 := HSm.out; omega) hV
            clear hcs hxs HC s0 s1
            by_cases h3 : ys[k].kind = 3
            · rw [h3] at s0b
              rw [if_pos h3] at HCx
              clear h3
              generalize ys[k].text = tx at *
              go_wp2_with (go_at_call 29; refine (HPu.out _ HO.out.row).mono ?_; rintro e w3 ⟨o3, rfl, ho3, hb3⟩)
              have HO3 : Hid (OwnB (w.heap.size + 1) o3 (putS o2 tx) w3) := World.ownsRow.mono ho3 (by have := HB.out.size; rw [HS0.out] at this; exact this)
              have HB3 : Hid (Below w0.heap.size w0 w3) := HB.out.trans (hb3.mono HB.out.size)
              clear ho3 hb3 HO HB hE n2b s0b s1b HPu
              go_roundw
              case rel => exact ⟨k + 1, _, by go_num, by omega, HCx.out, HPl.out, HO3.out, HB3.out⟩
              case measure => simp [intOf]; omega
            · have b3 : (ys[k].kind == 3) = false := beq_eq_false_iff_ne.2 h3
              rw [if_neg h3] at HCx
              have HL2 : Hid (o2.length ≤ base + (k + 1)) := by have := HL.out; rw [Hid]; omega
              clear h3
              generalize ys[k].kind = kk at *
              go_wp2
              go_roundw
              case rel => exact ⟨k + 1, o2, by go_num, by omega, HCx.out, HL2.out, HO.out, HB.out⟩
              case measure => simp [intOf]; omega
          · obtain rfl : k = ys.length := by omega
            have HCe : Hid (o2 = callsS out ys) := by
              have := HC.out
              rwa [List.drop_of_length_le (Nat.le_refl _)] at this
            have HCn : Hid (callsA o2 (es.drop (i + 1)) = callsA [] es) := by rw [Hid, HCe.out]; exact HCx.out
            have HLn : Hid (o2.length ≤ ((es.take (i + 1)).map List.length).sum) := by rw [Hid, HLx.out]; exact HL.out
            have HBn : Hid (Below (w.heap.size + 1) w0 wb) := by rw [Hid, ← HS0.out]; exact HB.out
            have i6 : ¬ (ys.length : Int) < (ys.length : Int) := by omega
            go_wp2
            go_roundw
            case rel => exact ⟨i + 1, o2, by go_num, by omega, HCn.out, HLn.out, HO.out, HBn.out⟩
            case measure => simp [intOf]; omega
      · obtain rfl : i = es.length := by omega
        have HCe : Hid (out = callsB g (q : Int)) := by
          have := HC.out
          rw [List.drop_of_length_le (Nat.le_refl _)] at this
          rw [Hid, HV.out]
          exact this
        have HBf : Hid (Below w.heap.size w wa) := B0.out.trans (HB.out.mono B0.out.size)
        have HOf : Hid (OwnB w.heap.size u5 (callsB g (q : Int)) wa) := by rw [← HCe.out]; exact World.ownsRow.mono HO.out (Nat.le_succ _)
        have i4 : ¬ (es.length : Int) < (es.length : Int) := by omega
        go_wp2
        go_ret
        exact ⟨_, rfl, HOf.out, HBf.out⟩
  · rw [decide_eq_false hr] at HIn
    have HV : Hid (callsB g r = []) := by rw [Hid, callsB, if_neg (fun h => hr ⟨h.1, by omega⟩)]
    have HBf : Hid (Below w.heap.size w ((w.alloc (.cells #[.slice a g.length cap] 28)).alloc (.cells #[] 9))) := B0.out.trans ((Below.refl _ _).alloc (by simp) _)
    have HOf : Hid (OwnB w.heap.size (.slice (some ⟨w.heap.size + 1, 0, none⟩) 0 0) [] ((w.alloc (.cells #[.slice a g.length cap] 28)).alloc (.cells #[] 9))) := World.ownsRow.mono HO0.out (Nat.le_succ _)
    clear hr
    go_enter Tryz.func14, Tryz.ntmps14
    go_wp2_with (go_at_call 26; refine (HIn.out _).mono ?_; rintro e wq ⟨rfl, hw⟩; rw [hw]; clear hw)
    go_ret
    rw [HV.out]
    exact ⟨_, rfl, HOf.out, HBf.out⟩

end Go.Proofs.YtkmkfpgaehgonaaGreatDoor

namespace Go.Proofs.YtkmkfpgaehgonaaGreatDoor
open Go.RowKit

theorem bl_irrefl : ∀ (x : List UInt8), Op.bytesLess x x = false
  | [] => rfl
  | a :: x => by simp [Op.bytesLess, bl_irrefl x, UInt8.lt_irrefl]
theorem bl_trans : ∀ (x y z : List UInt8), Op.bytesLess x y = true → Op.bytesLess y z = true → Op.bytesLess x z = true
  | _, [], _, h, _ => by cases ‹List UInt8› <;> simp [Op.bytesLess] at h
  | _, _ :: _, [], _, h => by simp [Op.bytesLess] at h
  | [], _ :: _, _ :: _, _, _ => rfl
  | a :: x, b :: y, c :: z, h, k => by
    simp only [Op.bytesLess, Bool.or_eq_true, decide_eq_true_eq, Bool.and_eq_true, beq_iff_eq] at h k ⊢
    rcases h with h | ⟨rfl, h⟩
    · rcases k with k | ⟨rfl, k⟩
      · exact .inl (UInt8.lt_trans h k)
      · exact .inl h
    · rcases k with k | ⟨rfl, k⟩
      · exact .inl k
      · exact .inr ⟨rfl, bl_trans x y z h k⟩
theorem bl_tri : ∀ (x y : List UInt8), Op.bytesLess x y = true ∨ x = y ∨ Op.bytesLess y x = true
  | [], [] => .inr (.inl rfl)
  | [], _ :: _ => .inl rfl
  | _ :: _, [] => .inr (.inr rfl)
  | a :: x, b :: y => by
    simp only [Op.bytesLess, Bool.or_eq_true, decide_eq_true_eq, Bool.and_eq_true, beq_iff_eq, List.cons.injEq]
    rcases Nat.lt_trichotomy a.toNat b.toNat with h | h | h
    · exact .inl (.inl h)
    · have e : a = b := UInt8.toNat_inj.1 h
      subst e
      rcases bl_tri x y with h | h | h
      · exact .inl (.inr ⟨rfl, h⟩)
      · exact .inr (.inl ⟨rfl, h⟩)
      · exact .inr (.inr (.inr ⟨rfl, h⟩))
    · exact .inr (.inr (.inl h))

theorem toList_inj {a b : ByteArray} (h : a.toList = b.toList) : a = b := by
  rw [ByteArray.toList_eq, ByteArray.toList_eq] at h
  exact ByteArray.ext (Array.toList_inj.1 h)
theorem lt_irrefl (a : ByteArray) : ltS a a = false := bl_irrefl _
theorem lt_trans' {a b c : ByteArray} (h : ltS a b = true) (k : ltS b c = true) : ltS a c = true := bl_trans _ _ _ h k
theorem lt_ne {a b : ByteArray} (h : ltS a b = true) : a ≠ b := by
  intro e; subst e; rw [lt_irrefl] at h; cases h
theorem lt_asymm' {a b : ByteArray} (h : ltS a b = true) : ltS b a = false := by
  cases hh : ltS b a with
  | false => rfl
  | true => have := lt_trans' h hh; rw [lt_irrefl] at this; cases this
theorem lt_tri (a b : ByteArray) : ltS a b = true ∨ a = b ∨ ltS b a = true := by
  rcases bl_tri a.toList b.toList with h | h | h
  · exact .inl h
  · exact .inr (.inl (toList_inj h))
  · exact .inr (.inr h)
theorem gt_iff (a b : ByteArray) : gtS a b = ltS b a := by
  unfold gtS
  rw [bytes_beq]
  rcases lt_tri a b with h | h | h
  · rw [show Op.bytesLess a.toList b.toList = true from h, lt_asymm' h]; rfl
  · subst h; rw [show Op.bytesLess a.toList a.toList = false from lt_irrefl a, lt_irrefl]; simp
  · rw [show Op.bytesLess a.toList b.toList = false from lt_asymm' h, h]
    simp only [Bool.false_or, Bool.not_eq_true', decide_eq_false_iff_not]
    exact fun e => lt_ne h e.symm

/-- Right behind a name, ascending: as a plain statement. -/
def After (p : Option ByteArray) (s : ByteArray) : Prop := match p with | none => True | some q => ltS q s = true
theorem stepOk_iff (p : Option ByteArray) (x : VarD) : stepOk p x = true ↔ nameB x.1 = true ∧ (-9999 ≤ x.2 ∧ x.2 ≤ 9999) ∧ After p x.1 := by
  unfold stepOk After
  cases p <;> simp [ltS, and_assoc]
theorem After.trans {p : Option ByteArray} {a b : ByteArray} (h : After p a) (k : ltS a b = true) : After p b := by
  cases p with
  | none => trivial
  | some q => exact lt_trans' h k

/-- All names of a right list come behind what it comes behind. -/
theorem chain_all : ∀ (xs : List VarD) (p : Option ByteArray), chainB p xs = true → ∀ x ∈ xs, nameB x.1 = true ∧ (-9999 ≤ x.2 ∧ x.2 ≤ 9999) ∧ After p x.1
  | [], _, _, _, hx => by cases hx
  | y :: ys, p, h, x, hx => by
    simp only [chainB, Bool.and_eq_true, stepOk_iff] at h
    rcases List.mem_cons.1 hx with rfl | hx
    · exact h.1
    · have := chain_all ys (some y.1) h.2 x hx
      exact ⟨this.1, this.2.1, h.1.2.2.trans this.2.2⟩

theorem filter_all {p : VarD → Bool} : ∀ {xs : List VarD}, (∀ x ∈ xs, p x = true) → xs.filter p = xs
  | [], _ => rfl
  | x :: xs, h => by rw [List.filter_cons, if_pos (h x (List.mem_cons_self ..)), filter_all (fun y hy => h y (List.mem_cons_of_mem _ hy))]
theorem filter_no {p : VarD → Bool} : ∀ {xs : List VarD}, (∀ x ∈ xs, p x = false) → xs.filter p = []
  | [], _ => rfl
  | x :: xs, h => by rw [List.filter_cons, if_neg (by rw [h x (List.mem_cons_self ..)]; simp), filter_no (fun y hy => h y (List.mem_cons_of_mem _ hy))]

theorem putB_nil (name : ByteArray) (num : Int) : putB [] name num = [(name, num)] := rfl
theorem putB_lt {x : VarD} {xs : List VarD} {name : ByteArray} {num : Int} (h : ltS x.1 name = true) : putB (x :: xs) name num = x :: putB xs name num := by
  have h2 : gtS x.1 name = false := by rw [gt_iff]; exact lt_asymm' h
  simp [putB, h, h2]
/-- Where the first is not less, none of a right list is. -/
theorem putB_ge {x : VarD} {xs : List VarD} {p : Option ByteArray} {name : ByteArray} {num : Int} (hc : chainB p (x :: xs) = true) (h : ltS x.1 name = false) :
    putB (x :: xs) name num = (name, num) :: (if x.1 = name then xs else x :: xs) := by
  simp only [chainB, Bool.and_eq_true] at hc
  have hall := chain_all xs (some x.1) hc.2
  have hle : x.1 = name ∨ ltS name x.1 = true := by
    rcases lt_tri x.1 name with k | k | k
    · rw [h] at k; cases k
    · exact .inl k
    · exact .inr k
  have hgt : ∀ y ∈ xs, ltS name y.1 = true := fun y hy => by
    have := (hall y hy).2.2
    rcases hle with rfl | k
    · exact this
    · exact lt_trans' k this
  have e1 : (x :: xs).filter (fun y => ltS y.1 name) = [] := filter_no (fun y hy => by
    rcases List.mem_cons.1 hy with rfl | hy
    · exact h
    · exact lt_asymm' (hgt y hy))
  have e2 : xs.filter (fun y => gtS y.1 name) = xs := filter_all (fun y hy => by rw [gt_iff]; exact hgt y hy)
  unfold putB
  rw [e1]
  rcases hle with k | k
  · rw [if_pos k, List.filter_cons, if_neg (by rw [gt_iff, k, lt_irrefl]; simp), e2]; rfl
  · rw [if_neg (fun e => lt_ne k e.symm), List.filter_cons, if_pos (by rw [gt_iff]; exact k), e2]; rfl

/-- A right list with a name put into it is right. -/
theorem chain_put : ∀ (xs : List VarD) (p : Option ByteArray) (name : ByteArray) (num : Int), chainB p xs = true → nameB name = true → -9999 ≤ num ∧ num ≤ 9999 → After p name → chainB p (putB xs name num) = true
  | [], p, name, num, _, hn, hr, ha => by
    simp only [putB_nil, chainB, Bool.and_true, stepOk_iff]
    exact ⟨hn, hr, ha⟩
  | x :: xs, p, name, num, hc, hn, hr, ha => by
    have hc0 := hc
    simp only [chainB, Bool.and_eq_true] at hc
    cases h : ltS x.1 name with
    | true =>
      rw [putB_lt h]
      simp only [chainB, Bool.and_eq_true]
      exact ⟨hc.1, chain_put xs (some x.1) name num hc.2 hn hr h⟩
    | false =>
      rw [putB_ge hc0 h]
      have h1 : stepOk p (name, num) = true := (stepOk_iff _ _).2 ⟨hn, hr, ha⟩
      by_cases e : x.1 = name
      · rw [if_pos e]
        subst e
        simp only [chainB, Bool.and_eq_true]
        exact ⟨h1, hc.2⟩
      · rw [if_neg e]
        have k : ltS name x.1 = true := by
          rcases lt_tri x.1 name with k | k | k
          · rw [h] at k; cases k
          · exact absurd k e
          · exact k
        have hx := (stepOk_iff _ _).1 hc.1
        simp only [chainB, Bool.and_eq_true]
        exact ⟨h1, (stepOk_iff _ _).2 ⟨hx.1, hx.2.1, k⟩, hc.2⟩

theorem put_len : ∀ (xs : List VarD) (p : Option ByteArray) (name : ByteArray) (num : Int), chainB p xs = true → (putB xs name num).length ≤ xs.length + 1
  | [], _, _, _, _ => Nat.le_refl _
  | x :: xs, p, name, num, hc => by
    cases h : ltS x.1 name with
    | true =>
      simp only [chainB, Bool.and_eq_true] at hc
      have := put_len xs (some x.1) name num hc.2
      rw [putB_lt h, List.length_cons, List.length_cons]
      omega
    | false =>
      rw [putB_ge hc h, List.length_cons]
      split
      · rw [List.length_cons]; omega
      · exact Nat.le_refl _

/-- What is set is got. -/
theorem get_put : ∀ (xs : List VarD) (p : Option ByteArray) (name : ByteArray) (num : Int), chainB p xs = true → getB (putB xs name num) name = some num
  | [], _, name, num, _ => by simp [putB_nil, getB]
  | x :: xs, p, name, num, hc => by
    cases h : ltS x.1 name with
    | true =>
      simp only [chainB, Bool.and_eq_true] at hc
      rw [putB_lt h, getB, if_neg (lt_ne h)]
      exact get_put xs (some x.1) name num hc.2
    | false => rw [putB_ge hc h, getB, if_pos rfl]
/-- All else stays. -/
theorem get_other : ∀ (xs : List VarD) (p : Option ByteArray) (name : ByteArray) (num : Int) (k : ByteArray), chainB p xs = true → k ≠ name → getB (putB xs name num) k = getB xs k
  | [], _, name, num, k, _, hk => by simp [putB_nil, getB, Ne.symm hk]
  | x :: xs, p, name, num, k, hc, hk => by
    cases h : ltS x.1 name with
    | true =>
      simp only [chainB, Bool.and_eq_true] at hc
      rw [putB_lt h, getB, getB, get_other xs (some x.1) name num k hc.2 hk]
    | false =>
      rw [putB_ge hc h, getB, if_neg (fun e => hk e.symm)]
      by_cases e : x.1 = name
      · rw [if_pos e, getB, if_neg (fun e2 => hk (by rw [← e2]; exact e))]
      · rw [if_neg e]
/-- Each of a right list is got. -/
theorem get_mem : ∀ (xs : List VarD) (p : Option ByteArray), chainB p xs = true → ∀ x ∈ xs, getB xs x.1 = some x.2
  | [], _, _, _, hx => by cases hx
  | y :: ys, p, hc, x, hx => by
    simp only [chainB, Bool.and_eq_true] at hc
    rcases List.mem_cons.1 hx with rfl | hx
    · rw [getB, if_pos rfl]
    · have := (chain_all ys (some y.1) hc.2 x hx).2.2
      rw [getB, if_neg (lt_ne this)]
      exact get_mem ys (some y.1) hc.2 x hx
theorem put_mem {xs : List VarD} {name : ByteArray} {num : Int} {x : VarD} (h : x ∈ putB xs name num) : x ∈ xs ∨ x = (name, num) := by
  rw [putB] at h
  rcases List.mem_append.1 h with h | h
  · rcases List.mem_append.1 h with h | h
    · exact .inl (List.mem_filter.1 h).1
    · exact .inr (by simpa using h)
  · exact .inl (List.mem_filter.1 h).1

end Go.Proofs.YtkmkfpgaehgonaaGreatDoor

namespace Go.Proofs.YtkmkfpgaehgonaaGreatDoor
open Go.RowKit

abbrev leL (x y : List UInt8) : Bool := decide (x ≤ y)
theorem lt_of_le_ne {x y : List UInt8} (h : x ≤ y) (hne : x ≠ y) : x < y := by
  rcases Decidable.em (x < y) with h1 | h1
  · exact h1
  · exact absurd (List.le_antisymm h (List.not_lt.1 h1)) hne
theorem compact_asc (d : Array (List UInt8)) (n : Nat) (hs : ∀ i j, i ≤ j → j < n → d[i]! ≤ d[j]!) : ∀ m, m ≤ n →
    (Lib.compactUpTo d m).Pairwise (fun x y => x < y) ∧ ∀ x, x ∈ Lib.compactUpTo d m ↔ ∃ j, j < m ∧ x = d[j]!
  | 0, _ => by simp [Lib.compactUpTo]
  | m + 1, hm => by
    obtain ⟨h1, h2⟩ := compact_asc d n hs m (by omega)
    rw [Lib.compactUpTo_succ]
    by_cases hk : Lib.keeps d m = true
    · rw [if_pos hk]
      refine ⟨List.pairwise_append.2 ⟨h1, by simp, fun x hx y hy => ?_⟩, fun x => ?_⟩
      · obtain rfl : y = d[m]! := by simpa using hy
        obtain ⟨j, hj, rfl⟩ := (h2 x).1 hx
        have hne : d[m]! ≠ d[m - 1]! := by
          have := of_decide_eq_true hk
          rcases this with h | h
          · omega
          · exact h
        have hlt := lt_of_le_ne (hs (m - 1) m (by omega) (by omega)) (fun e => hne e.symm)
        exact List.lt_of_le_of_lt (hs j (m - 1) (by omega) (by omega)) hlt
      · rw [List.mem_append, h2 x, List.mem_singleton]
        constructor
        · rintro (⟨j, hj, e⟩ | e)
          · exact ⟨j, by omega, e⟩
          · exact ⟨m, by omega, e⟩
        · rintro ⟨j, hj, e⟩
          by_cases h : j = m
          · subst h; exact .inr e
          · exact .inl ⟨j, by omega, e⟩
    · rw [if_neg hk, List.append_nil]
      refine ⟨h1, fun x => ?_⟩
      rw [h2 x]
      constructor
      · rintro ⟨j, hj, e⟩
        exact ⟨j, by omega, e⟩
      · rintro ⟨j, hj, e⟩
        by_cases h : j = m
        · subst h
          have hd : ¬ (j = 0 ∨ d[j]! ≠ d[j - 1]!) := fun h => hk (decide_eq_true h)
          have h0 : j ≠ 0 := fun h => hd (.inl h)
          have he : d[j]! = d[j - 1]! := Decidable.not_not.1 fun h => hd (.inr h)
          exact ⟨j - 1, by omega, by rw [e, he]⟩
        · exact ⟨j, by omega, e⟩
theorem get_toArray (zs : List (List UInt8)) (j : Nat) (h : j < zs.length) : zs.toArray[j]! = zs[j] := by
  rw [getElem!_pos _ _ (by simpa using h)]
  simp
/-- Sorted, then each once: ascending, the same elements. -/
theorem compact_sorted (zs : List (List UInt8)) : (Lib.compact (zs.mergeSort leL)).Pairwise (fun x y => x < y) ∧ ∀ x, x ∈ Lib.compact (zs.mergeSort leL) ↔ x ∈ zs := by
  have tr : ∀ a b c : List UInt8, leL a b = true → leL b c = true → leL a c = true := fun a b c h1 h2 => by simp only [leL, decide_eq_true_eq] at *; exact List.le_trans h1 h2
  have ltot : ∀ a b : List UInt8, (leL a b || leL b a) = true := fun a b => by simp only [leL, Bool.or_eq_true, decide_eq_true_eq]; exact List.le_total a b
  have hp := List.pairwise_mergeSort tr ltot zs
  have hperm := List.mergeSort_perm zs leL
  generalize zs.mergeSort leL = ys at *
  have hs : ∀ i j, i ≤ j → j < ys.length → ys.toArray[i]! ≤ ys.toArray[j]! := fun i j hij hj => by
    rw [get_toArray _ _ (by omega), get_toArray _ _ hj]
    by_cases e : i = j
    · subst e; exact List.le_refl _
    · have := List.pairwise_iff_getElem.1 hp i j (by omega) hj (by omega)
      simpa [leL] using this
  obtain ⟨h1, h2⟩ := compact_asc ys.toArray ys.length hs ys.length (Nat.le_refl _)
  refine ⟨h1, fun x => ?_⟩
  rw [Lib.compact, h2 x, ← hperm.mem_iff]
  constructor
  · rintro ⟨j, hj, rfl⟩
    rw [get_toArray _ _ hj]
    exact List.getElem_mem hj
  · intro hx
    obtain ⟨j, hj, rfl⟩ := List.getElem_of_mem hx
    exact ⟨j, hj, (get_toArray _ _ hj).symm⟩
theorem asc_same {l m : List (List UInt8)} (hl : l.Pairwise (fun x y => x < y)) (hm : m.Pairwise (fun x y => x < y)) (h : ∀ x, x ∈ l ↔ x ∈ m) : l = m := by
  have nd : ∀ {l : List (List UInt8)}, l.Pairwise (fun x y => x < y) → l.Nodup := fun h => h.imp fun {a b} hab e => by subst e; exact List.lt_irrefl _ hab
  refine List.Perm.eq_of_pairwise (le := fun a b => a < b) (fun a b _ _ h1 h2 => absurd (List.lt_trans h1 h2) (List.lt_irrefl _)) hl hm ((List.perm_ext_iff_of_nodup (nd hl) (nd hm)).2 h)
theorem ltS_iff (a b : ByteArray) : ltS a b = true ↔ a.data.toList < b.data.toList := by
  rw [ltS, bytesLess_eq, decide_eq_true_eq, ByteArray.toList_eq, ByteArray.toList_eq]
def AscS (ss : List ByteArray) : Prop := ss.Pairwise fun a b => ltS a b = true
theorem mem_putS {ss : List ByteArray} {s x : ByteArray} : x ∈ putS ss s ↔ x ∈ ss ∨ x = s := by
  rw [putS, List.mem_append, List.mem_append, List.mem_filter, List.mem_filter, List.mem_singleton]
  constructor
  · rintro ((h | h) | h)
    · exact .inl h.1
    · exact .inr h
    · exact .inl h.1
  · rintro (h | h)
    · rcases lt_tri x s with h1 | h1 | h1
      · exact .inl (.inl ⟨h, h1⟩)
      · exact .inl (.inr h1)
      · exact .inr ⟨h, by rw [gt_iff]; exact h1⟩
    · exact .inl (.inr h)
theorem ascS_put {ss : List ByteArray} (h : AscS ss) (s : ByteArray) : AscS (putS ss s) := by
  rw [putS]
  refine List.pairwise_append.2 ⟨List.pairwise_append.2 ⟨h.filter _, by simp, fun x hx y hy => ?_⟩, h.filter _, fun x hx y hy => ?_⟩
  · obtain rfl : y = s := by simpa using hy
    exact (List.mem_filter.1 hx).2
  · have hy2 : ltS s y = true := by rw [← gt_iff]; exact (List.mem_filter.1 hy).2
    rcases List.mem_append.1 hx with hx | hx
    · exact lt_trans' (List.mem_filter.1 hx).2 hy2
    · obtain rfl : x = s := by simpa using hx
      exact hy2
/-- The names of the nodes, as they come. -/
def namesF (ns : List NodeD) : List ByteArray := (ns.filter fun x => decide (x.op = 2)).map fun x => x.name
theorem namesF_next (ns : List NodeD) (k : Nat) (h : k < ns.length) : namesF (ns.take (k + 1)) = namesF (ns.take k) ++ (if ns[k].op = 2 then [ns[k].name] else []) := by
  rw [List.take_succ_eq_append_getElem h, namesF, List.filter_append, List.map_append, ← namesF]
  congr 1
  rw [List.filter_cons, List.filter_nil]
  by_cases e : ns[k].op = 2
  · simp [e]
  · simp [e]
theorem namesF_len (ns : List NodeD) : (namesF ns).length ≤ ns.length := by
  rw [namesF, List.length_map]
  exact List.length_filter_le ..
theorem freeF_asc (ns : List NodeD) : ∀ k, k ≤ ns.length → AscS (freeF (ns.take k)) ∧ ∀ x, x ∈ freeF (ns.take k) ↔ x ∈ namesF (ns.take k)
  | 0, _ => ⟨List.Pairwise.nil, fun x => by simp [freeF, namesF]⟩
  | k + 1, h => by
    obtain ⟨h1, h2⟩ := freeF_asc ns k (by omega)
    rw [freeF_next ns k (by omega), namesF_next ns k (by omega)]
    by_cases e : ns[k].op = 2
    · rw [if_pos e, if_pos e]
      exact ⟨ascS_put h1 _, fun x => by rw [mem_putS, h2 x, List.mem_append, List.mem_singleton]⟩
    · rw [if_neg e, if_neg e, List.append_nil]
      exact ⟨h1, h2⟩
theorem free_compact (ns : List NodeD) : Lib.compact (((namesF ns).map fun s => s.data.toList).mergeSort leL) = (freeF ns).map fun s => s.data.toList := by
  obtain ⟨h1, h2⟩ := compact_sorted ((namesF ns).map fun s => s.data.toList)
  obtain ⟨h3, h4⟩ := freeF_asc ns ns.length (Nat.le_refl _)
  rw [List.take_of_length_le (Nat.le_refl _)] at h3 h4
  refine asc_same h1 (List.pairwise_map.2 (h3.imp fun {a b} hab => (ltS_iff a b).1 hab)) fun x => ?_
  rw [h2 x, List.mem_map, List.mem_map]
  exact ⟨fun ⟨s, hs, e⟩ => ⟨s, (h4 s).2 hs, e⟩, fun ⟨s, hs, e⟩ => ⟨s, (h4 s).1 hs, e⟩⟩
end Go.Proofs.YtkmkfpgaehgonaaGreatDoor

namespace Go.Proofs.YtkmkfpgaehgonaaGreatDoor
open Go.RowKit

/-- The names that a rule's calls tell, as they come. -/
def namesC (ys : List SymD) : List ByteArray := (ys.filter fun y => decide (y.kind = 3)).map fun y => y.text
theorem namesC_next (ys : List SymD) (k : Nat) (h : k < ys.length) : namesC (ys.take (k + 1)) = namesC (ys.take k) ++ (if ys[k].kind = 3 then [ys[k].text] else []) := by
  rw [List.take_succ_eq_append_getElem h, namesC, List.filter_append, List.map_append, ← namesC]
  congr 1
  rw [List.filter_cons, List.filter_nil]
  by_cases e : ys[k].kind = 3
  · simp [e]
  · simp [e]
theorem namesC_len (ys : List SymD) : (namesC ys).length ≤ ys.length := by
  rw [namesC, List.length_map]
  exact List.length_filter_le ..
theorem namesC_append (xs ys : List SymD) : namesC (xs ++ ys) = namesC xs ++ namesC ys := by
  rw [namesC, List.filter_append, List.map_append, ← namesC, ← namesC]
def namesA (es : List (List SymD)) : List ByteArray := namesC es.flatten
theorem namesA_next (es : List (List SymD)) (k : Nat) (h : k < es.length) : namesA (es.take (k + 1)) = namesA (es.take k) ++ namesC es[k] := by
  rw [List.take_succ_eq_append_getElem h, namesA, List.flatten_append, namesC_append, ← namesA, List.flatten_cons, List.flatten_nil, List.append_nil]
theorem namesA_len (es : List (List SymD)) : (namesA es).length ≤ (es.map List.length).sum := by
  have := namesC_len es.flatten
  rwa [List.length_flatten] at this
theorem callsS_asc : ∀ (ys : List SymD) (out : List ByteArray), AscS out → AscS (callsS out ys) ∧ ∀ x, x ∈ callsS out ys ↔ x ∈ out ∨ x ∈ namesC ys
  | [], out, h => ⟨h, fun x => by simp [callsS, namesC]⟩
  | y :: ys, out, h => by
    rw [callsS]
    have en : namesC (y :: ys) = (if y.kind = 3 then [y.text] else []) ++ namesC ys := by
      have := namesC_append [y] ys
      rw [List.singleton_append] at this
      rw [this]
      congr 1
      by_cases e : y.kind = 3
      · simp [namesC, e]
      · simp [namesC, e]
    rw [en]
    by_cases e : y.kind = 3
    · rw [if_pos e, if_pos e]
      obtain ⟨h1, h2⟩ := callsS_asc ys (putS out y.text) (ascS_put h _)
      refine ⟨h1, fun x => ?_⟩
      rw [h2 x, mem_putS, List.mem_append, List.mem_singleton, or_assoc]
    · rw [if_neg e, if_neg e]
      obtain ⟨h1, h2⟩ := callsS_asc ys out h
      exact ⟨h1, fun x => by rw [h2 x, List.nil_append]⟩
theorem callsA_asc : ∀ (es : List (List SymD)) (out : List ByteArray), AscS out → AscS (callsA out es) ∧ ∀ x, x ∈ callsA out es ↔ x ∈ out ∨ x ∈ namesA es
  | [], out, h => ⟨h, fun x => by simp [callsA, namesA, namesC]⟩
  | e :: es, out, h => by
    rw [callsA]
    obtain ⟨h1, h2⟩ := callsS_asc e out h
    obtain ⟨h3, h4⟩ := callsA_asc es _ h1
    refine ⟨h3, fun x => ?_⟩
    rw [h4 x, h2 x]
    have en : namesA (e :: es) = namesC e ++ namesA es := by rw [namesA, List.flatten_cons, namesC_append, ← namesA]
    rw [en, List.mem_append, or_assoc]
theorem calls_compact (es : List (List SymD)) : Lib.compact (((namesA es).map fun s => s.data.toList).mergeSort leL) = (callsA [] es).map fun s => s.data.toList := by
  obtain ⟨h1, h2⟩ := compact_sorted ((namesA es).map fun s => s.data.toList)
  obtain ⟨h3, h4⟩ := callsA_asc es [] List.Pairwise.nil
  refine asc_same h1 (List.pairwise_map.2 (h3.imp fun {a b} hab => (ltS_iff a b).1 hab)) fun x => ?_
  rw [h2 x, List.mem_map, List.mem_map]
  exact ⟨fun ⟨s, hs, e⟩ => ⟨s, (h4 s).2 (.inr hs), e⟩, fun ⟨s, hs, e⟩ => ⟨s, ((h4 s).1 hs).resolve_left (by simp), e⟩⟩
end Go.Proofs.YtkmkfpgaehgonaaGreatDoor
