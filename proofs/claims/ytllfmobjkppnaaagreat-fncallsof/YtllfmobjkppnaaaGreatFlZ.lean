/- A surface that lies in new memory; l12Flat, as SurfaceOk asks it. -/
/- The verifier's drawn texts of tokens. -/
/- The verifier's drawn text of a grammar, exactly. -/
/- Lists of tokens in memory: read, and owned. -/
/- FnTokenFaults, walked out of a contract on the program's Tokens. -/
/- The verifier's draws of a rule's name, and of a text that a grammar may accept. -/
/- The verifier's drawn grammar, out of contracts on ReadSurface and Flatten. -/
/- At the verifier's thirteen texts: ReadSurface and Flatten, as the draws ask them. -/
import Derived.Test.YtllfmobjkppnaaaGreatFlF
import Derived.Test.YtllfmobjkppnaaaGreatFlY
import Derived.Test.YtllfmobjkppnaaaGreatRdW
import Derived.Test.YtllfmobjkppnaaaGreatTkX
import Derived.Test.YtllfmobjkppnaaaGreatFlV
import Derived.Test.YtllfmobjkppnaaaGreatS11P
import Derived.Test.YtllfmobjkppnaaaGreatSuD
import Derived.Test.YtllfmobjkppnaaaGreatDraw
import Derived.Deep.RegionHeld3
namespace Go.Proofs.YtllfmobjkppnaaaGreat
open Go.RowKit
set_option linter.unusedVariables false

theorem rowO_fresh {α : Type} {sz : Nat} {T : TypeId} {E : World → List Value → α → Prop} {B : Nat} {v : Value} {xs : List α} {w : World} (hE : ∀ V : World, w.heap.size ≤ V.heap.size → (∀ k, B ≤ k → k < w.heap.size → V.heap[k]? = w.heap[k]?) → ∀ vs x, E w vs x → E V vs x) (h : RowO sz T E B v xs w) : Fresh B w (fun V => RowO sz T E B v xs V) := fun V h1 h2 => h.world (fun n cs ho => own_fresh ho V h1 h2) (hE V h1 h2)
theorem nodesA_fresh {A : Nat → Prop} {B : Nat} {v : Value} {es : List NodeD} {w : World} (h : NodesA A B v es w) : Fresh B w (fun V => NodesA A B v es V) := rowO_fresh (fun V h1 h2 vs x hx => by
  obtain ⟨kv, e, hz, hk⟩ := hx
  exact ⟨kv, e, own_fresh hz V h1 h2, hk⟩) h
theorem argsA_fresh {A : Nat → Prop} {B : Nat} {v : Value} {es : List (List NodeD)} {w : World} (h : ArgsA A B v es w) : Fresh B w (fun V => ArgsA A B v es V) := rowO_fresh (fun V h1 h2 vs x hx => by
  obtain ⟨nv, e, hn⟩ := hx
  exact ⟨nv, e, nodesA_fresh hn V h1 h2⟩) h
theorem sNodes_fresh {A : Nat → Prop} {B : Nat} {v : Value} {xs : List SNodeD} {w : World} (h : SNodesO A B v xs w) : Fresh B w (fun V => SNodesO A B v xs V) := rowO_fresh (fun V h1 h2 vs x hx => by
  obtain ⟨av, kv, e, ha, hz, hk⟩ := hx
  exact ⟨av, kv, e, argsA_fresh ha V h1 h2, own_fresh hz V h1 h2, hk⟩) h
theorem sRules_fresh {B : Nat} {v : Value} {xs : List SRuleD} {w : World} (h : SRulesO B v xs w) : Fresh B w (fun V => SRulesO B v xs V) := rowO_fresh (fun V h1 h2 vs x hx => by
  obtain ⟨pv, e, hp⟩ := hx
  exact ⟨pv, e, own_fresh hp V h1 h2⟩) h
theorem flatC_of {ns : List SNodeD} {rs : List SRuleD} (hF : FlatOk ns rs) (hg : flatB ns rs = some (flatM ns rs)) : FlatC ns rs := fun hfo B nv rv W hN hR => by
  obtain ⟨an, cn, rfl⟩ := RowO.slice hN
  obtain ⟨ar, cr, rfl⟩ := RowO.slice hR
  refine (flatW_any (fun _ => False) ns rs hF an ar cn cr W (fun k h => h.elim) (Held.of_fresh (Fresh.imp (sNodes_fresh hN) (fun V h => sNs_of h)) (fun k h => h.elim)) (Held.of_fresh (Fresh.imp (sRules_fresh hR) (fun V h => sRs_of h)) (fun k h => h.elim))).mono ?_
  rintro e w' ⟨o, rfl, hH, hb⟩
  obtain ⟨a, c, rfl⟩ := hH.here.slice
  exact ⟨a, _, c, by rw [hg]; rfl, hb⟩

end Go.Proofs.YtllfmobjkppnaaaGreat

namespace Go.Proofs.YtllfmobjkppnaaaGreat
open Go.RowKit
set_option linter.unusedVariables false

theorem went_below2 {W : World} {v : Value} {n g : Nat} {w w1 w2 : World} (h : Went W v n g w w1) (hb : Below w1.heap.size w1 w2) : Went W v n g w w2 := went_trans h (went_below h.1 hb)
theorem cur_drew {W : World} {v : Value} {n g : Nat} {w : World} (h : Cur W v n g w) : Cur W v n g w.drew := ⟨⟨h.1.os, h.1.tape, h.1.output, h.1.size, h.1.block⟩, h.2⟩
theorem went_drew {W : World} {v : Value} {n g : Nat} {w w' : World} (h : Went W v n g w.drew w') : Went W v n g w w' := ⟨h.1, ⟨h.2.os, h.2.tape, h.2.output, h.2.size, h.2.block⟩⟩

set_option maxRecDepth 100000 in
theorem text11_any (W : World) (v : Value) (n g : Nat) (w : World) (hn : n ≤ 1000000000000) (hcode : CodeRow W v n) (hc : Cur W v n g w) :
    Calls Tryz.prog 58 #[.pointer (some ⟨g, 0, none⟩)] w fun e w' => ∃ s : ByteArray, e = .returned (.string s) ∧ s.size ≤ 200 ∧ Went W v n g w w' := by
  have HC : Hid (CodeRow W v n) := hcode
  have HW : Hid (Cur W v n g w) := hc
  clear hcode hc
  go_enter Tryz.func58, Tryz.ntmps58
  go_wp2_with fail
  refine (below_any W v n g 13 _ hn HC.out HW.out (by omega) (by omega)).mono ?_
  rintro e w1 ⟨x, rfl, ⟨x0, x1⟩, hw1⟩
  have H1 : Hid (Went W v n g w w1) := hw1
  clear hw1
  go_wp2_with fail
  refine (split11_any x _ x0 x1).mono ?_
  rintro e w2 ⟨s, t, rfl, hs, ht, hb2⟩
  have H2 : Hid (Went W v n g w w2) := went_below2 H1.out hb2
  clear hb2
  go_wp2
  go_ret
  exact ⟨_, rfl, hs, H2.out⟩

end Go.Proofs.YtllfmobjkppnaaaGreat

namespace Go.Proofs.YtllfmobjkppnaaaGreat
open Go.RowKit
set_option linter.unusedVariables false

theorem text11_is (W : World) (v : Value) (n g : Nat) (w : World) (hn : n ≤ 1000000000000) (hcode : CodeRow W v n) (hc : Cur W v n g w) :
    Calls Tryz.prog 58 #[.pointer (some ⟨g, 0, none⟩)] w fun e w' => ∃ s ∈ texts11, e = .returned (.string (cut11 s).1) ∧ Went W v n g w w' := by
  have HC : Hid (CodeRow W v n) := hcode
  have HW : Hid (Cur W v n g w) := hc
  clear hcode hc
  go_enter Tryz.func58, Tryz.ntmps58
  go_wp2_with fail
  refine (below_any W v n g 13 _ hn HC.out HW.out (by omega) (by omega)).mono ?_
  rintro e w1 ⟨x, rfl, ⟨x0, x1⟩, hw1⟩
  have H1 : Hid (Went W v n g w w1) := hw1
  clear hw1
  obtain ⟨k, rfl⟩ := Int.eq_ofNat_of_zero_le x0
  have hk : k < texts11.length := by rw [texts11_len]; omega
  go_wp2_with fail
  refine (split11_is k _ hk).mono ?_
  rintro e w2 ⟨rfl, hb2⟩
  have H2 : Hid (Went W v n g w w2) := went_below2 H1.out hb2
  have HM : Hid (texts11[k] ∈ texts11) := List.getElem_mem _
  clear hb2
  generalize texts11[k] = s at *
  go_wp2
  go_ret
  exact ⟨s, HM.out, rfl, H2.out⟩

end Go.Proofs.YtllfmobjkppnaaaGreat

namespace Go.Proofs.YtllfmobjkppnaaaGreat
open Go.RowKit
set_option linter.unusedVariables false

/-- The cells of a list of tokens. -/
def tv (xs : List TokD) : List Value := xs.flatMap fun x => [.int .i64 x.kind, .string x.text]
theorem tv_set : ∀ (ys : List TokD) (i : Nat) (x : TokD), i < ys.length → tv (ys.set i x) = ((tv ys).set (i * 2) (.int .i64 x.kind)).set (i * 2 + 1) (.string x.text)
  | y :: ys, 0, x, _ => rfl
  | y :: ys, i + 1, x, h => by
    have e : tv (y :: ys) = .int .i64 y.kind :: .string y.text :: tv ys := rfl
    have e2 : tv ((y :: ys).set (i + 1) x) = .int .i64 y.kind :: .string y.text :: tv (ys.set i x) := rfl
    rw [e, e2, tv_set ys i x (by simpa using h), show (i + 1) * 2 = i * 2 + 1 + 1 by omega]
    rfl
def OwnT (B : Nat) (v : Value) (xs : List TokD) (w : World) : Prop := w.ownsRow B 91 2 v xs.length (tv xs)
theorem vss_tv : ∀ (vss : List (List Value)) (xs : List TokD), vss.length = xs.length → (∀ i (h : i < vss.length) (h' : i < xs.length), vss[i] = [.int .i64 xs[i].kind, .string xs[i].text]) → vss.flatten = tv xs
  | [], [], _, _ => rfl
  | [], _ :: _, h, _ => by cases h
  | _ :: _, [], h, _ => by cases h
  | vs :: vss, x :: xs, h, hh => by
    have h0 := hh 0 (by simp) (by simp)
    have h1 := vss_tv vss xs (by simpa using h) (fun i hi hi' => hh (i + 1) (by simpa using hi) (by simpa using hi'))
    have h0' : vs = [.int .i64 x.kind, .string x.text] := h0
    have e : tv (x :: xs) = [.int .i64 x.kind, .string x.text] ++ tv xs := rfl
    rw [List.flatten_cons, h1, h0', e]
theorem ownT_of {B : Nat} {v : Value} {xs : List TokD} {w : World} (h : TokO B v xs w) : OwnT B v xs w := by
  obtain ⟨vss, h1, h2, h3, h4⟩ := h
  rw [vss_tv vss xs h1 (fun i hi hi' => h4 i hi hi')] at h3
  exact h3
theorem tokO_of {B : Nat} {v : Value} {xs : List TokD} {w : World} (h : OwnT B v xs w) : TokO B v xs w := by
  refine ⟨xs.map fun x => [.int .i64 x.kind, .string x.text], by simp, fun vs hvs => ?_, ?_, fun i hi hi' => ?_⟩
  · obtain ⟨x, _, rfl⟩ := List.mem_map.1 hvs
    rfl
  · rw [vss_tv _ xs (by simp) (fun i hi hi' => by simp)]
    exact h
  · simp [TokV]
theorem OwnT.below {B : Nat} {v : Value} {xs : List TokD} {w w' : World} (h : OwnT B v xs w) (hb : Below w.heap.size w w') : OwnT B v xs w' := own_below h hb
/-- A list of tokens, read. -/
def TokR (w : World) (v : Value) (xs : List TokD) : Prop := RowC 2 TokV w v xs
theorem TokR.below {w w' : World} {v : Value} {xs : List TokD} (h : TokR w v xs) (hb : Below w.heap.size w w') : TokR w' v xs := RowC.below (fun _ _ _ _ hx _ => hx) h hb
theorem OwnT.row {B : Nat} {v : Value} {xs : List TokD} {w : World} (h : OwnT B v xs w) : TokR w v xs := (tokO_of h).row
theorem TokR.at {w : World} {a : Option Addr} {n cap k : Nat} {xs : List TokD} (h : TokR w (.slice a n cap) xs) (hk : k < xs.length) :
    ∃ b off, a = some ⟨b, off, none⟩ ∧ w.cell? ⟨b, off + k * 2, none⟩ = some (.int .i64 xs[k].kind) ∧ w.cell? ⟨b, off + k * 2 + 1, none⟩ = some (.string xs[k].text) := by
  obtain ⟨b, off, vs, rfl, _, hc, hv⟩ := RowC.at h hk
  have hv' : vs = [.int .i64 xs[k].kind, .string xs[k].text] := hv
  subst hv'
  exact ⟨b, off, rfl, hc 0 (by simp), hc 1 (by simp)⟩

/-- What Tokens answers: the specification's, and the program's. -/
def TokensC (f : Nat) (s : ByteArray) : Prop := ∀ w : World, Calls Tryz.prog f #[.string s] w fun e w' => ∃ o, e = .returned (.tuple #[o, .int .i64 (tokensB s).2]) ∧ TokO w.heap.size o (tokensB s).1 w' ∧ Below w.heap.size w w'

end Go.Proofs.YtllfmobjkppnaaaGreat

namespace Go.Proofs.YtllfmobjkppnaaaGreat
open Go.RowKit
set_option linter.unusedVariables false

set_option maxHeartbeats 800000 in
set_option maxRecDepth 100000 in
theorem pickT_any (P : ByteArray → Prop) (W : World) (v : Value) (n g m gl cap : Nat) (w : World) (hn : n ≤ 1000000000000) (hcode : CodeRow W v n) (hc : Cur W v n g w) (hm : 0 < m) (hm1 : m ≤ 4294967296) (hne : gl ≠ g)
    (hl : ∀ i, i < m → ∃ y : ByteArray, w.cell? ⟨gl, i, none⟩ = some (.string y) ∧ P y) :
    Calls Tryz.prog 45 #[.pointer (some ⟨g, 0, none⟩), .slice (some ⟨gl, 0, none⟩) m cap] w fun e w' =>
      ∃ y : ByteArray, e = .returned (.string y) ∧ P y ∧ Went W v n g w w' := by
  have HC : Hid (CodeRow W v n) := hcode
  have HW : Hid (Cur W v n g w) := hc
  have HL : Hid (∀ i, i < m → ∃ y : ByteArray, w.cell? ⟨gl, i, none⟩ = some (.string y) ∧ P y) := hl
  clear hcode hc hl
  go_enter Tryz.func45, Tryz.ntmps45
  go_wp2_with fail
  refine (below_any W v n g m _ hn HC.out HW.out (by omega) (by omega)).mono ?_
  rintro e w1 ⟨x, rfl, ⟨x0, x1⟩, hw1⟩
  have H1 : Hid (Went W v n g w w1) := hw1
  clear hw1
  obtain ⟨k, rfl⟩ := Int.eq_ofNat_of_zero_le x0
  obtain ⟨y, hy, hp⟩ := HL.out k (by omega)
  have HP : Hid (P y) := hp
  have hy1 : w1.cell? ⟨gl, k, none⟩ = some (.string y) := H1.out.2.cell hy (fun e => hne (Option.some.inj e))
  clear hy hp
  go_wp2
  go_ret
  exact ⟨_, rfl, HP.out, H1.out⟩

theorem texts_rowN (w : World) (cs : Array Value) (t : TypeId) (m k : Nat) (hk : k = cs.size) (h : textsIn m cs = true) : ∀ i, i < k → ∃ y : ByteArray, (w.alloc (.cells cs t)).cell? ⟨w.heap.size, i, none⟩ = some (.string y) ∧ y.size ≤ m := fun i hi => texts_row w cs t m h i (by omega)

end Go.Proofs.YtllfmobjkppnaaaGreat

namespace Go.Proofs.YtllfmobjkppnaaaGreat
open Go.RowKit
set_option linter.unusedVariables false

set_option maxHeartbeats 1600000 in
set_option maxRecDepth 100000 in
theorem text07_any (W : World) (v : Value) (n g : Nat) (w : World) (hn : n ≤ 1000000000000) (hcode : CodeRow W v n) (hc : Cur W v n g w) :
    Calls Tryz.prog 27 #[.pointer (some ⟨g, 0, none⟩)] w fun e w' => ∃ s : ByteArray, e = .returned (.string s) ∧ s.size ≤ 8 ∧ Went W v n g w w' := by
  have HC : Hid (CodeRow W v n) := hcode
  have HW : Hid (Went W v n g w w) := ⟨hc, World.grownBy.refl _ _⟩
  clear hcode hc
  go_enter Tryz.func27, Tryz.ntmps27
  go_wp2
  go_loopw [3, 4] (fun sv iv wr => ∃ (s : ByteArray) (k : Nat), sv = .string s ∧ iv = .int .i64 k ∧ k ≤ 7 ∧ s.size ≤ 2 * k ∧ Went W v n g w wr) (fun _ iv _ => 8 - (intOf iv).toNat)
  case atStart => exact ⟨_, 0, rfl, rfl, by omega, by decide, HW.out⟩
  case round =>
    obtain ⟨s, k, rfl, rfl, hk, hs, hw⟩ := hrel
    have H1 : Hid (Went W v n g w wr) := hw
    clear hw
    go_wp2_with fail
    refine (below_any W v n g 7 _ hn HC.out H1.out.1 (by omega) (by omega)).mono ?_
    rintro e w2 ⟨x, rfl, ⟨x0, x1⟩, hw2⟩
    have H2 : Hid (Went W v n g w w2) := went_trans H1.out hw2
    clear hw2
    by_cases c : (k : Int) < x
    · go_wp2_with fail
      refine (pickT_any (fun y => y.size ≤ 2) W v n g 11 w2.heap.size 11 _ hn HC.out (went_alloc H2.out.1 _).1 (by omega) (by omega) (by have := H2.out.1.lt; omega) (texts_rowN w2 _ _ 2 11 rfl (by decide +kernel))).mono ?_
      rintro e w3 ⟨y, rfl, hy, hw3⟩
      have H3 : Hid (Went W v n g w w3) := went_trans H2.out (went_trans (went_alloc H2.out.1 _) hw3)
      have hy' : y.size ≤ 2 := hy
      have hr := fun W => run_string_add_sum (P := Tryz.prog) W s y (by omega)
      clear hw3 hy
      go_wp2
      go_roundw
      case rel => exact ⟨_, k + 1, rfl, by go_num, by omega, by rw [ByteArray.size_append]; omega, H3.out⟩
      case measure => simp [intOf]; omega
    · by_cases c8 : (8 : Int) < (s.size : Int)
      · have i1 : (8 : Int) ≤ (s.size : Int) := by omega
        go_wp2
        go_ret
        exact ⟨_, rfl, by rw [ByteArray.size_extract]; omega, H2.out⟩
      · go_wp2
        go_ret
        exact ⟨_, rfl, by omega, H2.out⟩

end Go.Proofs.YtllfmobjkppnaaaGreat

namespace Go.Proofs.YtllfmobjkppnaaaGreat
open Go.RowKit
set_option linter.unusedVariables false

/-- What ReadSurface and Flatten are asked for at a text. -/
def GrC (s : ByteArray) (g : List RuleD) : Prop := ∃ (ns : List SNodeD) (rs : List SRuleD),
  (∀ W : World, Calls Tryz.prog 22 #[.string s] W fun e w' => ∃ (nv rv : Value) (b : Bool), e = .returned (.tuple #[.agg #[nv, rv], .bool b]) ∧ Fresh W.heap.size w' (fun V => SNs V nv ns ∧ SRs V rv rs) ∧ Below W.heap.size W w') ∧
  (∀ (A : Nat → Prop) (W : World) (nv rv : Value), (∀ k, A k → k < W.heap.size) → Held A W (fun V => SNs V nv ns ∧ SRs V rv rs) → Calls Tryz.prog 23 #[.agg #[nv, rv]] W fun e w' => ∃ (o : Value) (b : Bool), e = .returned (.tuple #[.agg #[o], .bool b]) ∧ Held A w' (fun V => RowC 3 RuleE V o g) ∧ Below W.heap.size W w')

set_option maxHeartbeats 1600000 in
set_option maxRecDepth 100000 in
theorem grammar06_of (P : List RuleD → Prop) (hG : ∀ s ∈ texts11, ∃ g, P g ∧ GrC (cut11 s).1 g) (W : World) (v : Value) (n g : Nat) (w : World) (hn : n ≤ 1000000000000) (hcode : CodeRow W v n) (hc : Cur W v n g w) :
    Calls Tryz.prog 33 #[.pointer (some ⟨g, 0, none⟩)] w fun e w' => ∃ (G : List RuleD) (o : Value), P G ∧ e = .returned (.agg #[o]) ∧ Held (fun k => k < w.heap.size) w' (fun V => RowC 3 RuleE V o G) ∧ Went W v n g w w' := by
  have HC : Hid (CodeRow W v n) := hcode
  have HW : Hid (Cur W v n g w) := hc
  have HG : Hid (∀ s ∈ texts11, ∃ g, P g ∧ GrC (cut11 s).1 g) := hG
  clear hcode hc hG
  go_enter Tryz.func33, Tryz.ntmps33
  go_wp2_with fail
  refine (text11_is W v n g _ hn HC.out (went_alloc HW.out _).1).mono ?_
  rintro e w1 ⟨s, hs, rfl, hw1⟩
  obtain ⟨G, hP, ns, rs, hR, hF⟩ := HG.out s hs
  have HR : Hid (∀ W : World, Calls Tryz.prog 22 #[.string (cut11 s).1] W fun e w' => ∃ (nv rv : Value) (b : Bool), e = .returned (.tuple #[.agg #[nv, rv], .bool b]) ∧ Fresh W.heap.size w' (fun V => SNs V nv ns ∧ SRs V rv rs) ∧ Below W.heap.size W w') := hR
  have HF : Hid (∀ (A : Nat → Prop) (W : World) (nv rv : Value), (∀ k, A k → k < W.heap.size) → Held A W (fun V => SNs V nv ns ∧ SRs V rv rs) → Calls Tryz.prog 23 #[.agg #[nv, rv]] W fun e w' => ∃ (o : Value) (b : Bool), e = .returned (.tuple #[.agg #[o], .bool b]) ∧ Held A w' (fun V => RowC 3 RuleE V o G) ∧ Below W.heap.size W w') := hF
  have HP : Hid (P G) := hP
  have H1 : Hid (Went W v n g _ w1) := hw1
  clear hR hF hP hw1
  go_wp2_with fail
  refine (HR.out _).mono ?_
  rintro e w2 ⟨nv, rv, b, rfl, hfr, hb2⟩
  have F2 : Hid (Fresh w1.heap.size w2 (fun V => SNs V nv ns ∧ SRs V rv rs)) := hfr
  have B2 : Hid (Below w1.heap.size w1 w2) := hb2
  obtain ⟨⟨an, cn, rfl⟩, ⟨ar, cr, rfl⟩⟩ : (∃ an cn, nv = .slice an ns.length cn) ∧ ∃ ar cr, rv = .slice ar rs.length cr := ⟨RowC.slice (hfr w2 (Nat.le_refl _) (fun _ _ _ => rfl)).1, RowC.slice (hfr w2 (Nat.le_refl _) (fun _ _ _ => rfl)).2⟩
  clear hfr hb2
  go_wp2_with fail
  have ba : Below w2.heap.size w2 (w2.alloc (Obj.cells #[Value.slice an ns.length cn, Value.slice ar rs.length cr] 59)) := (Below.refl _ _).alloc (Nat.le_refl _) _
  refine (HF.out (fun k => k < w1.heap.size) _ _ _ (fun k hk => Nat.lt_of_lt_of_le hk (Nat.le_trans B2.out.size ba.size)) (Held.of_fresh (Fresh.step F2.out ba.size (fun k _ hk => ba.block k hk)) (fun k hk => hk))).mono ?_
  rintro e w3 ⟨o, b', rfl, hh, hb3⟩
  obtain ⟨ao, co, rfl⟩ := RowC.slice hh.here
  have B3 : Hid (Below w1.heap.size w1 w3) := B2.out.trans ((ba.mono B2.out.size).trans (hb3.mono (Nat.le_trans B2.out.size ba.size)))
  have H3 : Hid (Held (fun k => k < w1.heap.size) w3 (fun V => RowC 3 RuleE V (.slice ao G.length co) G)) := hh
  have hsz : w.heap.size < w1.heap.size := by have := H1.out.2.size; simp at this; omega
  have hgw := HW.out.lt
  have X3 : w3.heap[w.heap.size]? = some (.cells #[.slice none 0 0] 26 (0, 0)) := by
    rw [B3.out.block _ hsz, H1.out.2.block _ (by simp) (fun e => by have := Option.some.inj e; omega)]
    exact heap_alloc_new _ _
  have HX3 : Hid _ := X3
  have c0 := run_cell (j := 0) X3 rfl
  have f0 := run_frozen (j := 0) X3
  have hlt3 : w.heap.size < w3.heap.size := Nat.lt_of_lt_of_le hsz B3.out.size
  have hn3 : ¬ w.heap.size = w3.heap.size := by omega
  have hn4 : ¬ w3.heap.size = w.heap.size := by omega
  have ca : (w3.alloc (Obj.cells #[Value.slice ao G.length co] 26)).cell? ⟨w.heap.size, 0, none⟩ = some (.slice none 0 0) := run_cell (j := 0) (((Below.refl w3.heap.size w3).alloc (Nat.le_refl _) _).block _ hlt3 |>.trans X3) rfl
  have fa : (w3.alloc (Obj.cells #[Value.slice ao G.length co] 26)).frozen? ⟨w.heap.size, 0, none⟩ = false := run_frozen (((Below.refl w3.heap.size w3).alloc (Nat.le_refl _) _).block _ hlt3 |>.trans X3)
  obtain ⟨w5, hw5⟩ : ∃ X, X = (w3.setCell ⟨w.heap.size, 0, none⟩ (Value.slice ao G.length co)).alloc (Obj.cells #[Value.slice ao G.length co] 26) := ⟨_, rfl⟩
  have s4 : (w3.setCell ⟨w.heap.size, 0, none⟩ (Value.slice ao G.length co)).heap.size = w3.heap.size := by simp [World.setCell]
  have b5 : Below (w3.setCell ⟨w.heap.size, 0, none⟩ (Value.slice ao G.length co)).heap.size (w3.setCell ⟨w.heap.size, 0, none⟩ (Value.slice ao G.length co)) w5 := by rw [hw5]; exact (Below.refl _ _).alloc (Nat.le_refl _) _
  have Z : w5.heap[w.heap.size]? = some (.cells #[.slice ao G.length co] 26 (0, 0)) := by
    rw [b5.block _ (by rw [s4]; exact hlt3)]
    exact (setCell_self (j := 0) _ X3).trans rfl
  have Z1 : Hid (w5.cell? ⟨w.heap.size, 0, none⟩ = some (.slice ao G.length co)) := run_cell (j := 0) Z rfl
  have e5 : ∀ k, k < w3.heap.size → k ≠ w.heap.size → w5.heap[k]? = w3.heap[k]? := fun k hk hne => (b5.block k (by rw [s4]; exact hk)).trans (setCell_other _ hne)
  have hBW : W.heap.size ≤ w.heap.size := HW.out.1.size
  have hld : Hid (Held (fun k => k < w.heap.size) w5 (fun V => RowC 3 RuleE V (.slice ao G.length co) G)) :=
    ((H3.out.fr (FrA.set (A := fun k => k < w1.heap.size) _ hsz)).fr (FrA.below b5)).away (fun k _ hk => Nat.lt_trans hk hsz)
  have hwn : Hid (Went W v n g w w5) := by
    have h13 := went_below2 H1.out B3.out
    have hB5 : Below W.heap.size W w5 := (h13.1.1.setCell hBW _).trans (b5.mono (by rw [s4]; exact Nat.le_trans hBW (Nat.le_of_lt hlt3)))
    refine ⟨Cur.moved h13.1 hB5 (e5 g (Nat.lt_trans hgw hlt3) (by omega)), ⟨b5.os.trans h13.2.os, b5.tape.trans h13.2.tape, b5.output.trans h13.2.output, ?_, fun k hk hne => ?_⟩⟩
    · have := b5.size; omega
    · rw [e5 k (by omega) (by omega), h13.2.block k (by simp; omega) hne]
      exact ((Below.refl w.heap.size w).alloc (Nat.le_refl _) _).block k hk
  clear hh hb3 ba X3 Z b5 s4 e5 c0 f0
  go_wp2
  have zz := Z1.out
  rw [← hw5]
  refine bodyPost_ret (by simp [results, Tryz.results33, go_sem, zz]; try rfl) rfl ?_
  exact ⟨G, _, HP.out, rfl, hld.out, hwn.out⟩
end Go.Proofs.YtllfmobjkppnaaaGreat

namespace Go.Proofs.YtllfmobjkppnaaaGreat
open Go.RowKit
set_option linter.unusedVariables false

noncomputable def all13z : Bool := texts11.all fun s => decide ((cut11 s).1.size ≤ 1048576)
theorem all13z_is : all13z = true := by kernel_rfl
/-- What is asked of the thirteen is so. -/
theorem grC13 {s : ByteArray} (h : s ∈ texts11) : ∃ ns rs, parseB (cut11 s).1 = some (ns, rs) ∧ flatB ns rs = some (flatM ns rs) ∧ GrC (cut11 s).1 (flatM ns rs) := by
  obtain ⟨ns, rs, hp, hI, hfo, hg, hF⟩ := good13y h
  have hsz : (cut11 s).1.size ≤ 1048576 := of_decide_eq_true (List.all_eq_true.1 all13z_is s h)
  have hr : readB (cut11 s).1 = some (ns, rs) := by
    unfold readB
    rw [hp]
    simp only [surfOkB, hfo, hg, Option.isSome_some, Bool.and_self, if_true]
  refine ⟨ns, rs, hp, hg, ns, rs, fun W => ?_, fun A W nv rv hA hH => ?_⟩
  · refine (readSurface_of (cut11 s).1 W hsz (fun ns' rs' hp' B nv rv V hN hR => ?_)).mono ?_
    · rw [hp] at hp'
      cases hp'
      exact surfaceOk_of ns rs (formC_of hI) (flatC_of hF hg) B nv rv V hN hR
    · rintro e w' ⟨nv, rv, rfl, hb, hS⟩
      unfold SurfR at hS
      rw [hr] at hS
      exact ⟨nv, rv, _, rfl, Fresh.and (Fresh.imp (sNodes_fresh hS.1) (fun V h => sNs_of h)) (Fresh.imp (sRules_fresh hS.2) (fun V h => sRs_of h)), hb⟩
  · exact flatten_any A ns rs hI hfo hF nv rv W hA hH

end Go.Proofs.YtllfmobjkppnaaaGreat
