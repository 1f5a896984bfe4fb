/- The verifier's draws of a rule's name, and of a text that a grammar may accept. -/
/- The specification's SurfaceOk, out of contracts on l11Form and l12Flat. -/
/- Small helpers of the specification's l11Form: l11InRow, l11Group, l11Params, l11Leaf. -/
import Derived.Test.YtmacbobobaohgaaTkF
import Derived.Test.YtmacbobobaohgaaFlV
namespace Go.Proofs.Ytmacbobobaohgaa
open Go.RowKit
set_option linter.unusedVariables false

set_option maxRecDepth 100000 in
theorem drawRuleName_any (W : World) (v : Value) (n : Nat) (w : World) (hn : n ≤ 1000000000000) (hcode : CodeRow W v n) (hb : Below W.heap.size W w) :
    Calls Try.prog 9 #[v] w fun e w' => ∃ s : ByteArray, e = .returned (.string s) ∧ s.size ≤ 20 ∧ Below w.heap.size w w' := by
  have HC : Hid (CodeRow W v n) := hcode
  have HB : Hid (Below W.heap.size W w) := hb
  clear hcode hb
  go_enter Try.func9, Try.ntmps9
  go_wp2_with fail
  refine (new_any W v n _ hn HC.out HB.out).mono ?_
  rintro e w1 ⟨g, rfl, hc1, hb1, hg⟩
  have H1 : Hid (Cur W v n g w1) := hc1
  have B1 : Hid (Below w.heap.size w w1) := hb1
  clear hc1 hb1
  go_wp2_with fail
  refine (pickT_any (fun y => y.size ≤ 20) W v n g 7 w1.heap.size 7 _ hn HC.out (went_alloc H1.out _).1 (by omega) (by omega) (by have := H1.out.lt; omega) (texts_rowN w1 _ _ 20 7 rfl (by decide +kernel))).mono ?_
  rintro e w3 ⟨y, rfl, hy, hw3⟩
  have B3 : Hid (Below w.heap.size w w3) := B1.out.trans (went_bel (went_trans (went_alloc H1.out _) hw3) B1.out.size hg)
  have hy' : y.size ≤ 20 := hy
  clear hw3 hy
  go_wp2
  go_ret
  exact ⟨_, rfl, hy', B3.out⟩

set_option maxHeartbeats 1600000 in
set_option maxRecDepth 100000 in
theorem text07_any (W : World) (v : Value) (n g : Nat) (w : World) (hn : n ≤ 1000000000000) (hcode : CodeRow W v n) (hc : Cur W v n g w) :
    Calls Try.prog 26 #[.pointer (some ⟨g, 0, none⟩)] w fun e w' => ∃ s : ByteArray, e = .returned (.string s) ∧ s.size ≤ 8 ∧ Went W v n g w w' := by
  have HC : Hid (CodeRow W v n) := hcode
  have HW : Hid (Went W v n g w w) := ⟨hc, World.grownBy.refl _ _⟩
  clear hcode hc
  go_enter Try.func26, Try.ntmps26
  go_wp2
  go_loopw [3, 4] (fun sv iv wr => ∃ (s : ByteArray) (k : Nat), sv = .string s ∧ iv = .int .i64 k ∧ k ≤ 7 ∧ s.size ≤ 2 * k ∧ Went W v n g w wr) (fun _ iv _ => 8 - (intOf iv).toNat)
  case atStart => exact ⟨_, 0, rfl, rfl, by omega, by decide, HW.out⟩
  case round =>
    obtain ⟨s, k, rfl, rfl, hk, hs, hw⟩ := hrel
    have H1 : Hid (Went W v n g w wr) := hw
    clear hw
    go_wp2_with fail
    refine (below_any W v n g 7 _ hn HC.out H1.out.1 (by omega) (by omega)).mono ?_
    rintro e w2 ⟨x, rfl, ⟨x0, x1⟩, hw2⟩
    have H2 : Hid (Went W v n g w w2) := went_trans H1.out hw2
    clear hw2
    by_cases c : (k : Int) < x
    · go_wp2_with fail
      refine (pickT_any (fun y => y.size ≤ 2) W v n g 11 w2.heap.size 11 _ hn HC.out (went_alloc H2.out.1 _).1 (by omega) (by omega) (by have := H2.out.1.lt; omega) (texts_rowN w2 _ _ 2 11 rfl (by decide +kernel))).mono ?_
      rintro e w3 ⟨y, rfl, hy, hw3⟩
      have H3 : Hid (Went W v n g w w3) := went_trans H2.out (went_trans (went_alloc H2.out.1 _) hw3)
      have hy' : y.size ≤ 2 := hy
      have hr := fun W => run_string_add_sum (P := Try.prog) W s y (by omega)
      clear hw3 hy
      go_wp2
      go_roundw
      case rel => exact ⟨_, k + 1, rfl, by go_num, by omega, by rw [ByteArray.size_append]; omega, H3.out⟩
      case measure => simp [intOf]; omega
    · by_cases c8 : (8 : Int) < (s.size : Int)
      · have i1 : (8 : Int) ≤ (s.size : Int) := by omega
        go_wp2
        go_ret
        exact ⟨_, rfl, by rw [ByteArray.size_extract]; omega, H2.out⟩
      · go_wp2
        go_ret
        exact ⟨_, rfl, by omega, H2.out⟩

end Go.Proofs.Ytmacbobobaohgaa

namespace Go.Proofs.Ytmacbobobaohgaa
open Go.RowKit
set_option linter.unusedVariables false

/-- What l11Form is asked for. -/
def FormC (ns : List SNodeD) (rs : List SRuleD) : Prop := ∀ (B : Nat) (nv rv : Value) (W : World), SNodesO NoA B nv ns W → SRulesO B rv rs W → Calls Try.prog 38 #[.agg #[nv, rv]] W fun e w' => e = .returned (.bool (formB ns rs)) ∧ Below W.heap.size W w'
/-- What l12Flat is asked for, by SurfaceOk. -/
def FlatC (ns : List SNodeD) (rs : List SRuleD) : Prop := formB ns rs = true → ∀ (B : Nat) (nv rv : Value) (W : World), SNodesO NoA B nv ns W → SRulesO B rv rs W → Calls Try.prog 39 #[.agg #[nv, rv]] W fun e w' => ∃ o l c, e = .returned (.tuple #[.agg #[.slice o l c], .bool (flatB ns rs).isSome]) ∧ Below W.heap.size W w'

set_option maxHeartbeats 3200000 in
set_option maxRecDepth 100000 in
theorem surfaceOk_of (ns : List SNodeD) (rs : List SRuleD) (hFo : FormC ns rs) (hFl : FlatC ns rs) (B : Nat) (nv rv : Value) (W : World) (hN : SNodesO NoA B nv ns W) (hR : SRulesO B rv rs W) :
    Calls Try.prog 37 #[.agg #[nv, rv]] W fun e w' => e = .returned (.bool (surfOkB ns rs)) ∧ Below W.heap.size W w' := by
  obtain ⟨an, cn, rfl⟩ := RowO.slice hN
  obtain ⟨ar, cr, rfl⟩ := RowO.slice hR
  have bal : Below W.heap.size W (W.alloc (.cells #[.slice an ns.length cn, .slice ar rs.length cr] 55)) := (Below.refl _ _).alloc (Nat.le_refl _) _
  have N1 : Hid (SNodesO NoA B (.slice an ns.length cn) ns (W.alloc (.cells #[.slice an ns.length cn, .slice ar rs.length cr] 55))) := sNodes_below hN bal
  have L1 : Hid (SRulesO B (.slice ar rs.length cr) rs (W.alloc (.cells #[.slice an ns.length cn, .slice ar rs.length cr] 55))) := sRules_below hR bal
  have X1 := heap_alloc_new W (.cells #[.slice an ns.length cn, .slice ar rs.length cr] 55)
  have HX1 : Hid _ := X1
  have c0 := run_cell (j := 0) X1 rfl
  have c1 := run_cell (j := 1) X1 rfl
  have HB1 : Hid (Below W.heap.size W (W.alloc (.cells #[.slice an ns.length cn, .slice ar rs.length cr] 55))) := bal
  have HFo : Hid (FormC ns rs) := hFo
  have HFl : Hid (FlatC ns rs) := hFl
  clear bal hN hR X1 hFo hFl
  go_enter Try.func37, Try.ntmps37
  go_wp2_with fail
  generalize W.alloc (.cells #[.slice an ns.length cn, .slice ar rs.length cr] 55) = W1 at *
  refine (HFo.out B _ _ W1 N1.out L1.out).mono ?_
  rintro e w2 ⟨rfl, hb2⟩
  have X2 := (hb2.block _ (Array.getElem?_eq_some_iff.1 HX1.out).1).trans HX1.out
  have d0 := run_cell (j := 0) X2 rfl
  have d1 := run_cell (j := 1) X2 rfl
  have N2 : Hid (SNodesO NoA B (.slice an ns.length cn) ns w2) := sNodes_below N1.out hb2
  have L2 : Hid (SRulesO B (.slice ar rs.length cr) rs w2) := sRules_below L1.out hb2
  have HB2 : Hid (Below W.heap.size W w2) := HB1.out.trans (hb2.mono HB1.out.size)
  clear hb2 X2 N1 L1 HX1 HB1 c0 c1
  cases hf : formB ns rs with
  | false =>
    have HV : Hid (surfOkB ns rs = false) := by rw [Hid, surfOkB, hf]; rfl
    clear hf
    go_wp2
    (try simp only [Exit.inBlock, Exit.then])
    refine bodyPost_ret (by simp [results, Try.results37, go_sem]; try rfl) rfl ?_
    exact ⟨by rw [HV.out], HB2.out⟩
  | true =>
    have HV : Hid (surfOkB ns rs = (flatB ns rs).isSome) := by rw [Hid, surfOkB, hf]; rfl
    have HC : Hid (∀ _ : Unit, _) := fun _ => HFl.out hf B _ _ w2 N2.out L2.out
    clear hf
    go_wp2_with fail
    refine (HC.out ()).mono ?_
    rintro e w3 ⟨o, l, c, rfl, hb3⟩
    have HB3 : Hid (Below W.heap.size W w3) := HB2.out.trans (hb3.mono HB2.out.size)
    have HB4 : Hid (Below W.heap.size W (w3.alloc (.cells #[.slice o l c] 26))) := HB3.out.alloc HB3.out.size _
    generalize (flatB ns rs).isSome = b at *
    clear HC hb3
    go_wp2
    (try simp only [Exit.inBlock, Exit.then])
    refine bodyPost_ret (by simp [results, Try.results37, go_sem]; try rfl) rfl ?_
    exact ⟨by rw [HV.out], HB4.out⟩

end Go.Proofs.Ytmacbobobaohgaa

namespace Go.Proofs.Ytmacbobobaohgaa
open Go.RowKit
set_option linter.unusedVariables false

set_option maxHeartbeats 800000 in
theorem inRow_any (k : Int) (w : World) : Calls Try.prog 59 #[.int .i64 k] w fun e w' => e = .returned (.bool (!(decide (k = 5)))) ∧ w' = w := by
  by_cases h : k = 5
  · have q : (k != 5) = false := by simp [h]
    have HV : Hid (decide (k = 5) = true) := decide_eq_true h
    clear h
    go_enter Try.func59, Try.ntmps59
    go_wp2
    go_ret
    rw [HV.out]
    exact ⟨by first | rfl | (rw [q]; rfl), rfl⟩
  · have q : (k != 5) = true := by simp [h]
    have HV : Hid (decide (k = 5) = false) := decide_eq_false h
    clear h
    go_enter Try.func59, Try.ntmps59
    go_wp2
    go_ret
    rw [HV.out]
    exact ⟨by first | rfl | (rw [q]; rfl), rfl⟩

set_option maxHeartbeats 3200000 in
set_option maxRecDepth 100000 in
theorem group_any (ns : List SNodeD) (rs : List SRuleD) (nv rv : Value) (W : World) (i : Nat) (hN : SNs W nv ns) (hR : SRs W rv rs) (hi : i < ns.length) (hk : ns[i].kind ≠ 6 → 0 < ns[i].kids.length) :
    Calls Try.prog 66 #[.agg #[nv, rv], .int .i64 i] W fun e w' => e = .returned (.int .i64 (groupS ns i)) ∧ Below W.heap.size W w' := by
  obtain ⟨an, cn, rfl⟩ := RowC.slice hN
  obtain ⟨ar, cr, rfl⟩ := RowC.slice hR
  have S1 : Hid (SBox ns rs W an ar cn cr (W.alloc (.cells #[.slice an ns.length cn, .slice ar rs.length cr] 55))) := sbox_of hN hR
  clear hN hR
  obtain ⟨b, off, aa, ca, ka, ck, rfl, n0, _, _, _, n4, _, hZ⟩ := sNs_at S1.out.nod hi
  have HG : Hid (groupS ns i = if ns[i].kind = 6 then (i : Int) else ns[i].kids.getD 0 0) := by rw [Hid, groupS, nodeS_lt hi]
  have c0 := run_cell (j := 0) S1.out.box rfl
  have i1 : (i : Int) < (ns.length : Int) := by omega
  have HB1 : Hid (Below W.heap.size W (W.alloc (.cells #[.slice (some ⟨b, off, none⟩) ns.length cn, .slice ar rs.length cr] 55))) := S1.out.bel
  by_cases h6 : ns[i].kind = 6
  · rw [if_pos h6] at HG
    rw [h6] at n0
    clear h6 hk hZ S1
    go_enter Try.func66, Try.ntmps66
    go_wp2
    go_ret
    rw [HG.out]
    exact ⟨rfl, HB1.out⟩
  · have h0 : 0 < ns[i].kids.length := hk h6
    obtain ⟨kb, ko, rfl, hkc⟩ := hZ.at h0
    rw [if_neg h6] at HG
    have q6 : (ns[i].kind == 6) = false := by rw [beq_eq_false_iff_ne]; exact h6
    have HG0 : Hid (groupS ns i = ns[i].kids[0]) := by rw [Hid, HG.out, List.getD_eq_getElem?_getD, List.getElem?_eq_getElem h0]; rfl
    have i2 : (0 : Int) < (ns[i].kids.length : Int) := by omega
    have hkc2 := hkc
    (try simp only [Nat.add_zero] at hkc2)
    clear h6 hk hZ S1 HG
    generalize ns[i].kind = kd at *
    go_enter Try.func66, Try.ntmps66
    go_wp2
    go_ret
    rw [HG0.out]
    exact ⟨by first | rfl | simp, HB1.out⟩

set_option maxHeartbeats 3200000 in
set_option maxRecDepth 100000 in
theorem params_any (ns : List SNodeD) (rs : List SRuleD) (nv rv : Value) (W : World) (name : ByteArray) (hN : SNs W nv ns) (hR : SRs W rv rs) (hl : rs.length ≤ 100000) :
    Calls Try.prog 72 #[.agg #[nv, rv], .string name] W fun e w' => e = .returned (.int .i64 (parsS name rs)) ∧ Below W.heap.size W w' := by
  obtain ⟨an, cn, rfl⟩ := RowC.slice hN
  obtain ⟨ar, cr, rfl⟩ := RowC.slice hR
  have S1 : Hid (SBox ns rs W an ar cn cr (W.alloc (.cells #[.slice an ns.length cn, .slice ar rs.length cr] 55))) := sbox_of hN hR
  clear hN hR
  have c1 := run_cell (j := 1) S1.out.box rfl
  go_enter Try.func72, Try.ntmps72
  go_wp2
  generalize W.alloc (.cells #[.slice an ns.length cn, .slice ar rs.length cr] 55) = W1 at *
  go_loopg [5] rs.length (fun gg kv wr => ∃ i : Nat, kv = .int .i64 i ∧ gg + i = rs.length ∧ parsS name (rs.drop i) = parsS name rs ∧ wr = W1)
  case atStart => exact ⟨0, rfl, by omega, rfl, rfl⟩
  case round =>
    obtain ⟨i, rfl, hg, hE, rfl⟩ := hrel
    have HE : Hid (parsS name (rs.drop i) = parsS name rs) := hE
    clear hE
    by_cases hi : i < rs.length
    · have i1 : (i : Int) < (rs.length : Int) := by omega
      have d1 : decide ((i : Int) < (rs.length : Int)) = true := decide_eq_true i1
      obtain ⟨g, off, pa, pc, rfl, n0, n1, _, _⟩ := sRs_at S1.out.rul hi
      have HD : Hid (parsS name (rs.drop i) = if rs[i].name = name then (rs[i].params.length : Int) else parsS name (rs.drop (i + 1))) := by rw [Hid, List.drop_eq_getElem_cons hi, parsS]
      by_cases hn : rs[i].name = name
      · have qs := beq_yes hn
        rw [HE.out, if_pos hn] at HD
        clear hn
        go_wp2
        go_ret
        rw [HD.out]
        exact ⟨rfl, S1.out.bel⟩
      · have qs := beq_no hn
        rw [HE.out, if_neg hn] at HD
        clear hn
        have w1 : IntKind.i64.wrap ((i : Int) + 1) = ((i + 1 : Nat) : Int) := by rw [IntKind.wrap_i64]; omega
        obtain ⟨f, rfl⟩ : ∃ f, gk = f + 1 := ⟨gk - 1, by omega⟩
        go_wp2
        go_roundg f
        case measure => omega
        case rel => exact ⟨i + 1, by go_num, by omega, HD.out.symm, rfl⟩
    · have d1 : decide ((i : Int) < (rs.length : Int)) = false := decide_eq_false (by omega)
      have HV : Hid (parsS name rs = -1) := by rw [Hid, ← HE.out, List.drop_of_length_le (by omega)]; rfl
      clear HE
      go_wp2
      go_ret
      rw [HV.out]
      exact ⟨rfl, S1.out.bel⟩

set_option maxHeartbeats 3200000 in
set_option maxRecDepth 100000 in
theorem leaf_any (k : Int) (t b : ByteArray) (aa : Option Addr) (la ca : Nat) (ka : Option Addr) (lk ck : Nat) (W : World) :
    Calls Try.prog 62 #[.agg #[.int .i64 k, .string t, .slice aa la ca, .string b, .slice ka lk ck]] W fun e w' => e = .returned (.agg #[.int .i64 k, .string t, .slice aa la ca, .string b]) ∧ Below W.heap.size W w' := by
  have bal : Below W.heap.size W (W.alloc (.cells #[.int .i64 k, .string t, .slice aa la ca, .string b, .slice ka lk ck] 100)) := (Below.refl _ _).alloc (Nat.le_refl _) _
  have X1 := heap_alloc_new W (.cells #[.int .i64 k, .string t, .slice aa la ca, .string b, .slice ka lk ck] 100)
  have bal2 : Hid (Below W.heap.size W ((W.alloc (.cells #[.int .i64 k, .string t, .slice aa la ca, .string b, .slice ka lk ck] 100)).alloc (.cells #[.int .i64 0, .string ⟨#[]⟩, .slice none 0 0, .string ⟨#[]⟩] 68))) := bal.alloc (by simp) _
  have X2 := xb_alloc X1 (.cells #[.int .i64 0, .string ⟨#[]⟩, .slice none 0 0, .string ⟨#[]⟩] 68)
  have Y2 := heap_alloc_new (W.alloc (.cells #[.int .i64 k, .string t, .slice aa la ca, .string b, .slice ka lk ck] 100)) (.cells #[.int .i64 0, .string ⟨#[]⟩, .slice none 0 0, .string ⟨#[]⟩] 68)
  rw [show (W.alloc (.cells #[.int .i64 k, .string t, .slice aa la ca, .string b, .slice ka lk ck] 100)).heap.size = W.heap.size + 1 by simp] at Y2
  have c0 := run_cell (j := 0) X2 rfl
  have c1 := run_cell (j := 1) X2 rfl
  have c2 := run_cell (j := 2) X2 rfl
  have c3 := run_cell (j := 3) X2 rfl
  have y0 := run_cell (j := 0) Y2 rfl
  have y1 := run_cell (j := 1) Y2 rfl
  have y2 := run_cell (j := 2) Y2 rfl
  have y3 := run_cell (j := 3) Y2 rfl
  have HBr : Hid (Below W.heap.size W ((W.alloc (.cells #[.int .i64 k, .string t, .slice aa la ca, .string b, .slice ka lk ck] 100)).alloc (.cells #[.int .i64 k, .string t, .slice aa la ca, .string b] 68))) := bal.alloc (by simp) _
  clear X1 X2 Y2 bal bal2
  go_enter Try.func62, Try.ntmps62
  go_wp2
  refine bodyPost_ret (by simp [results, Try.results62, go_sem]; try rfl) rfl ?_
  exact ⟨rfl, HBr.out⟩

end Go.Proofs.Ytmacbobobaohgaa
