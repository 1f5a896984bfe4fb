/- The verifier's draws, second part: a cursor made anew, a number out of a list, texts. -/
/- The verifier's draws for the first chapter. -/
/- The verifier's texts of grammars: one of thirteen, parted into the grammar's text and its letters. -/
/- The verifier's drawn texts of tokens. -/
/- The specification's SurfaceOk, out of contracts on l11Form and l12Flat. -/
/- Small helpers of the specification's l11Form: l11InRow, l11Group, l11Params, l11Leaf. -/
import Derived.Test.YtipkbkhnaekceaaDraw
import Derived.Test.YtipkbkhnaekceaaFlG0
import Derived.OpenShut
import Derived.Deep.RegionHeld3
namespace Go.Proofs.Ytipkbkhnaekceaa
open Go.RowKit

theorem CodeRow.slice {W : World} {v : Value} {n : Nat} (h : CodeRow W v n) : ∃ a cap, v = .slice a n cap := by
  obtain ⟨a, cap, h, _⟩ := h
  exact ⟨a, cap, h⟩

theorem CodeRow.at {W w : World} {a : Option Addr} {n cap k : Nat} (h : CodeRow W (.slice a n cap) n) (hb : Below W.heap.size W w) (hk : k < n) :
    ∃ b off, ∃ z : Int, a = some ⟨b, off, none⟩ ∧ 0 ≤ z ∧ z < 256 ∧ w.cell? ⟨b, off + k, none⟩ = some (.int .u8 z) := by
  obtain ⟨a', cap', h1, h2⟩ := h
  simp only [Value.slice.injEq] at h1
  obtain ⟨rfl, _, rfl⟩ := h1
  obtain ⟨b, off, rfl, hbl, hc⟩ := h2 (by omega)
  obtain ⟨z, z0, z1, hz⟩ := hc k hk
  exact ⟨b, off, z, rfl, z0, z1, (hb.cell hbl).trans hz⟩

theorem codeRow_of {W : World} {x : Addr} {len cap : Nat} {zs : List Int} (hl : len ≤ cap) (hz : zs.length = cap) (hcell : ∀ i, i < zs.length → W.cell? (x.add i) = some (.int .u8 (zs.getD i 0))) (hw : ∀ n ∈ zs, (Lit.int .u8 n).wf = true) :
    CodeRow W (.slice (some x) len cap) len := by
  refine ⟨_, _, rfl, fun hpos => ?_⟩
  obtain ⟨b, off, spot⟩ := x
  have h0 := hcell 0 (by omega)
  have hspot : spot = none := by simpa [Addr.add] using World.cell?_spot h0
  subst hspot
  refine ⟨b, off, rfl, ?_, fun i hi => ?_⟩
  · have := World.block_lt_of_cell? W _ h0
    simpa [Addr.add] using this
  · have h1 := hcell i (by omega)
    rw [Addr.add_lit] at h1
    have hb := bounds_u8 (hw (zs.getD i 0) (by rw [List.getD_eq_getElem?_getD, List.getElem?_eq_getElem (by omega)]; exact List.getElem_mem _))
    exact ⟨_, by omega, by omega, h1⟩

set_option maxHeartbeats 800000 in
set_option maxRecDepth 100000 in
theorem new_any (W : World) (v : Value) (n : Nat) (w : World) (hn : n ≤ 1000000000000) (hcode : CodeRow W v n) (hb : Below W.heap.size W w) :
    Calls Try.prog 9 #[v] w fun e w' => ∃ g, e = .returned (.pointer (some ⟨g, 0, none⟩)) ∧ Cur W v n g w' ∧ Below w.heap.size w w' ∧ w.heap.size ≤ g := by
  have HC : Hid (CodeRow W v n) := hcode
  have HB : Hid (Below W.heap.size W w) := hb
  obtain ⟨a, cap, rfl⟩ := hcode.slice
  clear hcode hb
  have e30 := i64_and30
  go_enter Try.func9, Try.ntmps9
  go_wp2
  go_loop [3, 4] (fun hv iv => ∃ (h : Int) (i : Nat), hv = .int .i64 h ∧ iv = .int .i64 i ∧ 0 ≤ h ∧ h ≤ 1000000034601 ∧ i ≤ n) (fun _ iv => n - (intOf iv).toNat)
  case atStart => exact ⟨_, 0, rfl, rfl, by omega, by omega, Nat.zero_le _⟩
  case round =>
    obtain ⟨h, i, rfl, rfl, h0, h1, hi⟩ := hrel
    by_cases hlt : i < n
    · obtain ⟨b, off, z, rfl, z0, z1, hz⟩ := HC.out.at HB.out hlt
      by_cases h4 : i < 4000
      · go_wp2
        go_round
        case rel => exact ⟨_, i + 1, rfl, by go_num, by omega, by omega, by omega⟩
        case measure => simp [intOf]; omega
      · go_wp2
        go_ret
        exact ⟨_, rfl, ⟨HB.out.alloc HB.out.size _, HB.out.size, 0, h, by omega, by omega, by omega, by omega, heap_alloc_new w _⟩, (Below.refl _ _).alloc (Nat.le_refl _) _, Nat.le_refl _⟩
    · go_wp2
      go_ret
      exact ⟨_, rfl, ⟨HB.out.alloc HB.out.size _, HB.out.size, 0, h, by omega, by omega, by omega, by omega, heap_alloc_new w _⟩, (Below.refl _ _).alloc (Nat.le_refl _) _, Nat.le_refl _⟩

end Go.Proofs.Ytipkbkhnaekceaa

namespace Go.Proofs.Ytipkbkhnaekceaa
open Go.RowKit

theorem went_alloc {W : World} {v : Value} {n g : Nat} {w : World} (h : Cur W v n g w) (o : Obj) : Went W v n g w (w.alloc o) :=
  ⟨h.moved (h.1.alloc h.1.size o) (Below.heap_alloc w o g h.lt), World.grownBy_alloc w o _⟩

theorem went_below {W : World} {v : Value} {n g : Nat} {w w' : World} (h : Cur W v n g w) (hb : Below w.heap.size w w') : Went W v n g w w' :=
  ⟨h.moved (h.1.trans (hb.mono h.1.size)) (hb.block g h.lt), ⟨hb.os, hb.tape, hb.output, hb.size, fun k hk _ => hb.block k hk⟩⟩

theorem went_bel {W : World} {v : Value} {n g : Nat} {w w' : World} {B : Nat} (h : Went W v n g w w') (hB : B ≤ w.heap.size) (hg : B ≤ g) : Below B w w' :=
  ⟨h.2.os, h.2.tape, h.2.output, h.2.size, fun k hk => h.2.block k (by omega) (fun e => by have := Option.some.inj e; omega)⟩

end Go.Proofs.Ytipkbkhnaekceaa

namespace Go.Proofs.Ytipkbkhnaekceaa
open Go.RowKit
set_option linter.unusedVariables false

/-- Each cell a text that is not empty and no longer than m. -/
def textsIn (m : Nat) (cs : Array Value) : Bool := cs.toList.all fun v => match v with | .string s => decide (s.size ≤ m) | _ => false
theorem textsIn_at {m : Nat} {cs : Array Value} (h : textsIn m cs = true) {i : Nat} (hi : i < cs.size) : ∃ s : ByteArray, cs[i]? = some (.string s) ∧ s.size ≤ m := by
  unfold textsIn at h
  rw [List.all_eq_true] at h
  have := h cs[i] (Array.getElem_mem_toList hi)
  rw [Array.getElem?_eq_getElem hi]
  generalize cs[i] = v at *
  cases v <;> simp at this ⊢
  exact this
theorem texts_row (w : World) (cs : Array Value) (t : TypeId) (m : Nat) (h : textsIn m cs = true) : ∀ i, i < cs.size → ∃ y : ByteArray, (w.alloc (.cells cs t)).cell? ⟨w.heap.size, i, none⟩ = some (.string y) ∧ y.size ≤ m := by
  intro i hi
  obtain ⟨s, h1, h2⟩ := textsIn_at h hi
  refine ⟨s, ?_, h2⟩
  have := World.news_of_block (heap_alloc_new w (.cells cs t)) i (.string s) (by simpa using h1)
  rw [Addr.add_lit, Nat.zero_add] at this
  exact this

end Go.Proofs.Ytipkbkhnaekceaa

namespace Go.Proofs.Ytipkbkhnaekceaa
open Go.RowKit
set_option linter.unusedVariables false

theorem went_below2 {W : World} {v : Value} {n g : Nat} {w w1 w2 : World} (h : Went W v n g w w1) (hb : Below w1.heap.size w1 w2) : Went W v n g w w2 := went_trans h (went_below h.1 hb)

end Go.Proofs.Ytipkbkhnaekceaa

namespace Go.Proofs.Ytipkbkhnaekceaa
open Go.RowKit
set_option linter.unusedVariables false

/-- What l11Form is asked for. -/
def FormC (ns : List SNodeD) (rs : List SRuleD) : Prop := ∀ (B : Nat) (nv rv : Value) (W : World), SNodesO NoA B nv ns W → SRulesO B rv rs W → Calls Try.prog 55 #[.agg #[nv, rv]] W fun e w' => e = .returned (.bool (formB ns rs)) ∧ Below W.heap.size W w'
/-- What l12Flat is asked for, by SurfaceOk. -/
def FlatC (ns : List SNodeD) (rs : List SRuleD) : Prop := formB ns rs = true → ∀ (B : Nat) (nv rv : Value) (W : World), SNodesO NoA B nv ns W → SRulesO B rv rs W → Calls Try.prog 56 #[.agg #[nv, rv]] W fun e w' => ∃ o l c, e = .returned (.tuple #[.agg #[.slice o l c], .bool (flatB ns rs).isSome]) ∧ Below W.heap.size W w'

set_option maxHeartbeats 3200000 in
set_option maxRecDepth 100000 in
theorem surfaceOk_of (ns : List SNodeD) (rs : List SRuleD) (hFo : FormC ns rs) (hFl : FlatC ns rs) (B : Nat) (nv rv : Value) (W : World) (hN : SNodesO NoA B nv ns W) (hR : SRulesO B rv rs W) :
    Calls Try.prog 53 #[.agg #[nv, rv]] W fun e w' => e = .returned (.bool (surfOkB ns rs)) ∧ Below W.heap.size W w' := by
  obtain ⟨an, cn, rfl⟩ := RowO.slice hN
  obtain ⟨ar, cr, rfl⟩ := RowO.slice hR
  have bal : Below W.heap.size W (W.alloc (.cells #[.slice an ns.length cn, .slice ar rs.length cr] 81)) := (Below.refl _ _).alloc (Nat.le_refl _) _
  have N1 : Hid (SNodesO NoA B (.slice an ns.length cn) ns (W.alloc (.cells #[.slice an ns.length cn, .slice ar rs.length cr] 81))) := sNodes_below hN bal
  have L1 : Hid (SRulesO B (.slice ar rs.length cr) rs (W.alloc (.cells #[.slice an ns.length cn, .slice ar rs.length cr] 81))) := sRules_below hR bal
  have X1 := heap_alloc_new W (.cells #[.slice an ns.length cn, .slice ar rs.length cr] 81)
  have HX1 : Hid _ := X1
  have c0 := run_cell (j := 0) X1 rfl
  have c1 := run_cell (j := 1) X1 rfl
  have HB1 : Hid (Below W.heap.size W (W.alloc (.cells #[.slice an ns.length cn, .slice ar rs.length cr] 81))) := bal
  have HFo : Hid (FormC ns rs) := hFo
  have HFl : Hid (FlatC ns rs) := hFl
  clear bal hN hR X1 hFo hFl
  go_enter Try.func53, Try.ntmps53
  go_wp2_with fail
  generalize W.alloc (.cells #[.slice an ns.length cn, .slice ar rs.length cr] 81) = W1 at *
  refine (HFo.out B _ _ W1 N1.out L1.out).mono ?_
  rintro e w2 ⟨rfl, hb2⟩
  have X2 := (hb2.block _ (Array.getElem?_eq_some_iff.1 HX1.out).1).trans HX1.out
  have d0 := run_cell (j := 0) X2 rfl
  have d1 := run_cell (j := 1) X2 rfl
  have N2 : Hid (SNodesO NoA B (.slice an ns.length cn) ns w2) := sNodes_below N1.out hb2
  have L2 : Hid (SRulesO B (.slice ar rs.length cr) rs w2) := sRules_below L1.out hb2
  have HB2 : Hid (Below W.heap.size W w2) := HB1.out.trans (hb2.mono HB1.out.size)
  clear hb2 X2 N1 L1 HX1 HB1 c0 c1
  cases hf : formB ns rs with
  | false =>
    have HV : Hid (surfOkB ns rs = false) := by rw [Hid, surfOkB, hf]; rfl
    clear hf
    go_wp2
    (try simp only [Exit.inBlock, Exit.then])
    refine bodyPost_ret (by simp [results, Try.results53, go_sem]; try rfl) rfl ?_
    exact ⟨by rw [HV.out], HB2.out⟩
  | true =>
    have HV : Hid (surfOkB ns rs = (flatB ns rs).isSome) := by rw [Hid, surfOkB, hf]; rfl
    have HC : Hid (∀ _ : Unit, _) := fun _ => HFl.out hf B _ _ w2 N2.out L2.out
    clear hf
    go_wp2_with fail
    refine (HC.out ()).mono ?_
    rintro e w3 ⟨o, l, c, rfl, hb3⟩
    have HB3 : Hid (Below W.heap.size W w3) := HB2.out.trans (hb3.mono HB2.out.size)
    have HB4 : Hid (Below W.heap.size W (w3.alloc (.cells #[.slice o l c] 26))) := HB3.out.alloc HB3.out.size _
    generalize (flatB ns rs).isSome = b at *
    clear HC hb3
    go_wp2
    (try simp only [Exit.inBlock, Exit.then])
    refine bodyPost_ret (by simp [results, Try.results53, go_sem]; try rfl) rfl ?_
    exact ⟨by rw [HV.out], HB4.out⟩

end Go.Proofs.Ytipkbkhnaekceaa

namespace Go.Proofs.Ytipkbkhnaekceaa
open Go.RowKit
set_option linter.unusedVariables false

set_option maxHeartbeats 800000 in
theorem inRow_any (k : Int) (w : World) : Calls Try.prog 84 #[.int .i64 k] w fun e w' => e = .returned (.bool (!(decide (k = 5)))) ∧ w' = w := by
  by_cases h : k = 5
  · have q : (k != 5) = false := by simp [h]
    have HV : Hid (decide (k = 5) = true) := decide_eq_true h
    clear h
    go_enter Try.func84, Try.ntmps84
    go_wp2
    go_ret
    rw [HV.out]
    exact ⟨by first | rfl | (rw [q]; rfl), rfl⟩
  · have q : (k != 5) = true := by simp [h]
    have HV : Hid (decide (k = 5) = false) := decide_eq_false h
    clear h
    go_enter Try.func84, Try.ntmps84
    go_wp2
    go_ret
    rw [HV.out]
    exact ⟨by first | rfl | (rw [q]; rfl), rfl⟩

set_option maxHeartbeats 3200000 in
set_option maxRecDepth 100000 in
theorem group_any (ns : List SNodeD) (rs : List SRuleD) (nv rv : Value) (W : World) (i : Nat) (hN : SNs W nv ns) (hR : SRs W rv rs) (hi : i < ns.length) (hk : ns[i].kind ≠ 6 → 0 < ns[i].kids.length) :
    Calls Try.prog 89 #[.agg #[nv, rv], .int .i64 i] W fun e w' => e = .returned (.int .i64 (groupS ns i)) ∧ Below W.heap.size W w' := by
  obtain ⟨an, cn, rfl⟩ := RowC.slice hN
  obtain ⟨ar, cr, rfl⟩ := RowC.slice hR
  have S1 : Hid (SBox ns rs W an ar cn cr (W.alloc (.cells #[.slice an ns.length cn, .slice ar rs.length cr] 81))) := sbox_of hN hR
  clear hN hR
  obtain ⟨b, off, aa, ca, ka, ck, rfl, n0, _, _, _, n4, _, hZ⟩ := sNs_at S1.out.nod hi
  have HG : Hid (groupS ns i = if ns[i].kind = 6 then (i : Int) else ns[i].kids.getD 0 0) := by rw [Hid, groupS, nodeS_lt hi]
  have c0 := run_cell (j := 0) S1.out.box rfl
  have i1 : (i : Int) < (ns.length : Int) := by omega
  have HB1 : Hid (Below W.heap.size W (W.alloc (.cells #[.slice (some ⟨b, off, none⟩) ns.length cn, .slice ar rs.length cr] 81))) := S1.out.bel
  by_cases h6 : ns[i].kind = 6
  · rw [if_pos h6] at HG
    rw [h6] at n0
    clear h6 hk hZ S1
    go_enter Try.func89, Try.ntmps89
    go_wp2
    go_ret
    rw [HG.out]
    exact ⟨rfl, HB1.out⟩
  · have h0 : 0 < ns[i].kids.length := hk h6
    obtain ⟨kb, ko, rfl, hkc⟩ := hZ.at h0
    rw [if_neg h6] at HG
    have q6 : (ns[i].kind == 6) = false := by rw [beq_eq_false_iff_ne]; exact h6
    have HG0 : Hid (groupS ns i = ns[i].kids[0]) := by rw [Hid, HG.out, List.getD_eq_getElem?_getD, List.getElem?_eq_getElem h0]; rfl
    have i2 : (0 : Int) < (ns[i].kids.length : Int) := by omega
    have hkc2 := hkc
    (try simp only [Nat.add_zero] at hkc2)
    clear h6 hk hZ S1 HG
    generalize ns[i].kind = kd at *
    go_enter Try.func89, Try.ntmps89
    go_wp2
    go_ret
    rw [HG0.out]
    exact ⟨by first | rfl | simp, HB1.out⟩

set_option maxHeartbeats 3200000 in
set_option maxRecDepth 100000 in
theorem params_any (ns : List SNodeD) (rs : List SRuleD) (nv rv : Value) (W : World) (name : ByteArray) (hN : SNs W nv ns) (hR : SRs W rv rs) (hl : rs.length ≤ 100000) :
    Calls Try.prog 93 #[.agg #[nv, rv], .string name] W fun e w' => e = .returned (.int .i64 (parsS name rs)) ∧ Below W.heap.size W w' := by
  obtain ⟨an, cn, rfl⟩ := RowC.slice hN
  obtain ⟨ar, cr, rfl⟩ := RowC.slice hR
  have S1 : Hid (SBox ns rs W an ar cn cr (W.alloc (.cells #[.slice an ns.length cn, .slice ar rs.length cr] 81))) := sbox_of hN hR
  clear hN hR
  have c1 := run_cell (j := 1) S1.out.box rfl
  go_enter Try.func93, Try.ntmps93
  go_wp2
  generalize W.alloc (.cells #[.slice an ns.length cn, .slice ar rs.length cr] 81) = W1 at *
  go_loopg [5] rs.length (fun gg kv wr => ∃ i : Nat, kv = .int .i64 i ∧ gg + i = rs.length ∧ parsS name (rs.drop i) = parsS name rs ∧ wr = W1)
  case atStart => exact ⟨0, rfl, by omega, rfl, rfl⟩
  case round =>
    obtain ⟨i, rfl, hg, hE, rfl⟩ := hrel
    have HE : Hid (parsS name (rs.drop i) = parsS name rs) := hE
    clear hE
    by_cases hi : i < rs.length
    · have i1 : (i : Int) < (rs.length : Int) := by omega
      have d1 : decide ((i : Int) < (rs.length : Int)) = true := decide_eq_true i1
      obtain ⟨g, off, pa, pc, rfl, n0, n1, _, _⟩ := sRs_at S1.out.rul hi
      have HD : Hid (parsS name (rs.drop i) = if rs[i].name = name then (rs[i].params.length : Int) else parsS name (rs.drop (i + 1))) := by rw [Hid, List.drop_eq_getElem_cons hi, parsS]
      by_cases hn : rs[i].name = name
      · have qs := beq_yes hn
        rw [HE.out, if_pos hn] at HD
        clear hn
        go_wp2
        go_ret
        rw [HD.out]
        exact ⟨rfl, S1.out.bel⟩
      · have qs := beq_no hn
        rw [HE.out, if_neg hn] at HD
        clear hn
        have w1 : IntKind.i64.wrap ((i : Int) + 1) = ((i + 1 : Nat) : Int) := by rw [IntKind.wrap_i64]; omega
        obtain ⟨f, rfl⟩ : ∃ f, gk = f + 1 := ⟨gk - 1, by omega⟩
        go_wp2
        go_roundg f
        case measure => omega
        case rel => exact ⟨i + 1, by go_num, by omega, HD.out.symm, rfl⟩
    · have d1 : decide ((i : Int) < (rs.length : Int)) = false := decide_eq_false (by omega)
      have HV : Hid (parsS name rs = -1) := by rw [Hid, ← HE.out, List.drop_of_length_le (by omega)]; rfl
      clear HE
      go_wp2
      go_ret
      rw [HV.out]
      exact ⟨rfl, S1.out.bel⟩

set_option maxHeartbeats 3200000 in
set_option maxRecDepth 100000 in
theorem leaf_any (k : Int) (t b : ByteArray) (aa : Option Addr) (la ca : Nat) (ka : Option Addr) (lk ck : Nat) (W : World) :
    Calls Try.prog 86 #[.agg #[.int .i64 k, .string t, .slice aa la ca, .string b, .slice ka lk ck]] W fun e w' => e = .returned (.agg #[.int .i64 k, .string t, .slice aa la ca, .string b]) ∧ Below W.heap.size W w' := by
  have bal : Below W.heap.size W (W.alloc (.cells #[.int .i64 k, .string t, .slice aa la ca, .string b, .slice ka lk ck] 121)) := (Below.refl _ _).alloc (Nat.le_refl _) _
  have X1 := heap_alloc_new W (.cells #[.int .i64 k, .string t, .slice aa la ca, .string b, .slice ka lk ck] 121)
  have bal2 : Hid (Below W.heap.size W ((W.alloc (.cells #[.int .i64 k, .string t, .slice aa la ca, .string b, .slice ka lk ck] 121)).alloc (.cells #[.int .i64 0, .string ⟨#[]⟩, .slice none 0 0, .string ⟨#[]⟩] 51))) := bal.alloc (by simp) _
  have X2 := xb_alloc X1 (.cells #[.int .i64 0, .string ⟨#[]⟩, .slice none 0 0, .string ⟨#[]⟩] 51)
  have Y2 := heap_alloc_new (W.alloc (.cells #[.int .i64 k, .string t, .slice aa la ca, .string b, .slice ka lk ck] 121)) (.cells #[.int .i64 0, .string ⟨#[]⟩, .slice none 0 0, .string ⟨#[]⟩] 51)
  rw [show (W.alloc (.cells #[.int .i64 k, .string t, .slice aa la ca, .string b, .slice ka lk ck] 121)).heap.size = W.heap.size + 1 by simp] at Y2
  have c0 := run_cell (j := 0) X2 rfl
  have c1 := run_cell (j := 1) X2 rfl
  have c2 := run_cell (j := 2) X2 rfl
  have c3 := run_cell (j := 3) X2 rfl
  have y0 := run_cell (j := 0) Y2 rfl
  have y1 := run_cell (j := 1) Y2 rfl
  have y2 := run_cell (j := 2) Y2 rfl
  have y3 := run_cell (j := 3) Y2 rfl
  have HBr : Hid (Below W.heap.size W ((W.alloc (.cells #[.int .i64 k, .string t, .slice aa la ca, .string b, .slice ka lk ck] 121)).alloc (.cells #[.int .i64 k, .string t, .slice aa la ca, .string b] 51))) := bal.alloc (by simp) _
  clear X1 X2 Y2 bal bal2
  go_enter Try.func86, Try.ntmps86
  go_wp2
  refine bodyPost_ret (by simp [results, Try.results86, go_sem]; try rfl) rfl ?_
  exact ⟨rfl, HBr.out⟩

end Go.Proofs.Ytipkbkhnaekceaa
