/- The verifier's thirteen texts, exactly: read out of the translation itself, and how l11Split parts them. -/
/- At the verifier's thirteen texts: what is parsed out of each, its form, and the grammar that it is made into. -/
/- The verifier's drawn text of a grammar, exactly. -/
/- Lists of tokens in memory: read, and owned. -/
/- FnTokenFaults, walked out of a contract on the program's Tokens. -/
/- The verifier's draws of a rule's name, and of a text that a grammar may accept. -/
/- The verifier's drawn grammar, out of contracts on ReadSurface and Flatten. -/
/- A drawn grammar, turned in one place; the contract of l06Any. -/
import Derived.Test.YtipkbkhnaekceaaSfG
import Derived.Test.YtipkbkhnaekceaaS10O
import Derived.Test.YtipkbkhnaekceaaSfF
import Derived.Test.YtipkbkhnaekceaaFlG0
import Derived.Test.YtipkbkhnaekceaaXPure
import Derived.Test.YtipkbkhnaekceaaSuD
import Derived.Test.YtipkbkhnaekceaaDraw
namespace Go.Proofs.Ytipkbkhnaekceaa
open Go.RowKit
set_option linter.unusedVariables false

/-- The texts that one operation lays in a row. -/
def opTexts : Op → List ByteArray
  | .buildSlice _ _ parts => parts.toList.filterMap fun p => match p.2 with | .const (.string s) => some s | _ => none
  | _ => []
def codeTexts : Code → List ByteArray
  | .seq a b => codeTexts a ++ codeTexts b
  | .region _ is _ => is.toList.flatMap fun i => opTexts i.op
  | _ => []
/-- The texts that the translation of l11List lays. -/
noncomputable def texts11 : List ByteArray := match Try.f70.body with | some c => codeTexts c | none => []
theorem texts11_len : texts11.length = 13 := by kernel_rfl
/-- The last place of the sign that parts a text; its length where there is none. -/
def bar11 (s : ByteArray) : Nat := (List.range s.size).foldl (fun m i => if s.data.toList[i]? = some 124 then i else m) s.size
def cut11 (s : ByteArray) : ByteArray × ByteArray := if bar11 s < s.size then (s.extract 0 (bar11 s), s.extract (bar11 s + 1) s.size) else (s, ⟨#[97]⟩)
theorem bar_of {s : ByteArray} {j : Nat} (hj : j < s.size) (h : s[j] = 124) (hn : ∀ m (hm : m < s.size), j < m → ¬ s[m] = 124) : bar11 s = j := by
  have key : ∀ k, k ≤ s.size → j < k → (List.range k).foldl (fun m i => if s.data.toList[i]? = some 124 then i else m) s.size = j := by
    intro k
    induction k with
    | zero => intro _ h0; omega
    | succ k ih =>
      intro hk hjk
      have hl : k < s.data.toList.length := by rw [toList_size s]; omega
      rw [List.range_succ, List.foldl_append, List.foldl_cons, List.foldl_nil]
      have eg : s.data.toList[k]? = some s[k] := by rw [List.getElem?_eq_getElem hl]; rfl
      by_cases c : j = k
      · subst c
        rw [if_pos (eg.trans (congrArg some h))]
      · rw [if_neg (fun h' => hn k (by omega) (by omega) (Option.some.inj (eg.symm.trans h'))), ih (by omega) (by omega)]
  exact key s.size (Nat.le_refl _) hj
theorem bar_none {s : ByteArray} (hn : ∀ m (hm : m < s.size), ¬ s[m] = 124) : bar11 s = s.size := by
  have key : ∀ k, k ≤ s.size → (List.range k).foldl (fun m i => if s.data.toList[i]? = some 124 then i else m) s.size = s.size := by
    intro k
    induction k with
    | zero => intro _; rfl
    | succ k ih =>
      intro hk
      have hl : k < s.data.toList.length := by rw [toList_size s]; omega
      rw [List.range_succ, List.foldl_append, List.foldl_cons, List.foldl_nil, ih (by omega)]
      have eg : s.data.toList[k]? = some s[k] := by rw [List.getElem?_eq_getElem hl]; rfl
      rw [if_neg (fun h' => hn k (by omega) (Option.some.inj (eg.symm.trans h')))]
  exact key s.size (Nat.le_refl _)

set_option maxRecDepth 100000 in
theorem list11_is (w : World) :
    Calls Try.prog 70 #[] w fun e w' => e = .returned (.slice (some ⟨w.heap.size, 0, none⟩) 13 13) ∧ w' = w.alloc (.cells (texts11.map Value.string).toArray 9) := by
  go_enter Try.func70, Try.ntmps70
  go_wp2
  go_ret
  refine ⟨rfl, ?_⟩
  refine congrArg (fun c => w.alloc (Obj.cells c 9)) ?_
  kernel_rfl
theorem texts11_row (w : World) (t : TypeId) (i : Nat) (h : i < texts11.length) : (w.alloc (.cells (texts11.map Value.string).toArray t)).cell? ⟨w.heap.size, i, none⟩ = some (.string texts11[i]) := by
  have := World.news_of_block (heap_alloc_new w (.cells (texts11.map Value.string).toArray t)) i (.string texts11[i]) (by simp [h])
  rw [Addr.add_lit, Nat.zero_add] at this
  exact this
theorem texts11_size : ∀ s ∈ texts11, s.size ≤ 200 := by
  have : texts11.all (fun s => decide (s.size ≤ 200)) = true := by kernel_rfl
  intro s hs
  simpa using List.all_eq_true.1 this s hs

set_option maxHeartbeats 800000 in
set_option maxRecDepth 100000 in
theorem split11_is (m : Nat) (w : World) (h1 : m < texts11.length) :
    Calls Try.prog 54 #[.int .i64 m] w fun e w' => e = .returned (.tuple #[.string (cut11 texts11[m]).1, .string (cut11 texts11[m]).2]) ∧ Below w.heap.size w w' := by
  have hs := texts11_row w 9 m h1
  have hz := texts11_size texts11[m] (List.getElem_mem _)
  have hm : m < 13 := by rw [← texts11_len]; exact h1
  generalize texts11[m] = s at *
  have HB : Hid (Below w.heap.size w (w.alloc (.cells (texts11.map Value.string).toArray 9))) := (Below.refl _ _).alloc (Nat.le_refl _) _
  go_enter Try.func54, Try.ntmps54
  go_wp2_with fail
  refine (list11_is _).mono ?_
  rintro e w1 ⟨rfl, rfl⟩
  generalize w.alloc (.cells (texts11.map Value.string).toArray 9) = w1 at *
  have hk : (m : Int).tmod 13 = (m : Int) := by rw [Int.tmod_eq_emod_of_nonneg (by omega)]; omega
  go_wp2
  go_loop [6] (fun iv => ∃ i : Int, iv = .int .i64 i ∧ -1 ≤ i ∧ i < s.size ∧ ∀ q (hq : q < s.size), i < (q : Int) → ¬ s[q] = 124) (fun iv => (intOf iv + 1).toNat)
  case atStart => exact ⟨_, rfl, by omega, by omega, fun q hq h => by omega⟩
  case round =>
    obtain ⟨i, rfl, hi0, hi1, hnone⟩ := hrel
    have HN : Hid (∀ q (hq : q < s.size), i < (q : Int) → ¬ s[q] = 124) := hnone
    clear hnone
    by_cases hneg : 0 ≤ i
    · obtain ⟨j, rfl⟩ := Int.eq_ofNat_of_zero_le hneg
      have hj : j < s.size := by omega
      have hu := s[j].toNat_lt
      by_cases hb : s[j].toNat = 124
      · have HE : Hid (cut11 s = (s.extract 0 j, s.extract (j + 1) s.size)) := by
          have e := bar_of hj (u8_is hb (by decide)) (fun q hq hjq => HN.out q hq (by omega))
          rw [Hid, cut11, e, if_pos hj]
        have q : ((s[j].toNat : Int) == 124) = true := by rw [beq_iff_eq]; omega
        go_wp2
        go_region
        go_wp2
        go_ret2
        rw [HE.out]
        exact ⟨by simp, ⟨HB.out.os, HB.out.tape, HB.out.output, HB.out.size, HB.out.block⟩⟩
      · have q : ((s[j].toNat : Int) == 124) = false := by rw [beq_eq_false_iff_ne]; omega
        have HX : Hid (¬ s[j] = 124) := fun h => hb (by rw [h]; rfl)
        go_wp2
        go_round
        case rel =>
          refine ⟨(j : Int) - 1, rfl, by omega, by omega, fun q hq hjq => ?_⟩
          by_cases c : q = j
          · subst c; exact HX.out
          · exact HN.out q hq (by omega)
        case measure => simp [intOf]
    · obtain rfl : i = -1 := by omega
      have HE : Hid (cut11 s = (s, ⟨#[97]⟩)) := by
        have e := bar_none (s := s) (fun q hq => HN.out q hq (by omega))
        rw [Hid, cut11, e, if_neg (Nat.lt_irrefl _)]
      go_wp2
      go_ret2
      rw [HE.out]
      exact ⟨rfl, HB.out⟩

end Go.Proofs.Ytipkbkhnaekceaa

namespace Go.Proofs.Ytipkbkhnaekceaa
open Go.RowKit
set_option linter.unusedVariables false

theorem formC_of {ns : List SNodeD} {rs : List SRuleD} (hI : SurfIn ns rs) : FormC ns rs := fun B nv rv W hN hR => form_any ns rs hI nv rv W (sNs_of hN) (sRs_of hR)

instance (x : Int) : Decidable (i64 x) := by unfold i64; infer_instance
instance (ns : List NodeD) : Decidable (NIn ns) := by unfold NIn; infer_instance
instance (ns : List SNodeD) : Decidable (LeafsIn ns) := by unfold LeafsIn; infer_instance
instance (rs : List SRuleD) : Decidable (RulesInS rs) := by unfold RulesInS; infer_instance
instance (ns : List SNodeD) (rs : List SRuleD) : Decidable (SurfIn ns rs) :=
  decidable_of_iff (ns.length ≤ 100000 ∧ rs.length ≤ 100000 ∧ (∀ x ∈ ns, x.kids.length ≤ 10000000 ∧ x.args.length ≤ 10000000) ∧ LeafsIn ns ∧ RulesInS rs)
    ⟨fun h => ⟨h.1, h.2.1, h.2.2.1, h.2.2.2.1, h.2.2.2.2⟩, fun h => ⟨h.nl, h.rl, h.kl, h.lf, h.rn⟩⟩

/-- Parsed, within bounds, in form, and made into a grammar that is right. -/
def goodS (s : ByteArray) : Bool := match parseB s with | some (ns, rs) => decide (SurfIn ns rs) && formB ns rs && (flatB ns rs).isSome | none => false
noncomputable def all13 : Bool := texts11.all fun s => goodS (cut11 s).1
theorem all13_is : all13 = true := by kernel_rfl
theorem goodS_of {s : ByteArray} (h : goodS s = true) : ∃ ns rs g, parseB s = some (ns, rs) ∧ SurfIn ns rs ∧ formB ns rs = true ∧ flatB ns rs = some g := by
  unfold goodS at h
  cases hp : parseB s with
  | none => rw [hp] at h; cases h
  | some q =>
    obtain ⟨ns, rs⟩ := q
    rw [hp] at h
    simp only [Bool.and_eq_true, decide_eq_true_eq] at h
    obtain ⟨g, hg⟩ := Option.isSome_iff_exists.1 h.2
    exact ⟨ns, rs, g, rfl, h.1.1, h.1.2, hg⟩
theorem good13 {s : ByteArray} (h : s ∈ texts11) : goodS (cut11 s).1 = true := List.all_eq_true.1 all13_is s h

end Go.Proofs.Ytipkbkhnaekceaa

namespace Go.Proofs.Ytipkbkhnaekceaa
open Go.RowKit
set_option linter.unusedVariables false

theorem text11_is (W : World) (v : Value) (n g : Nat) (w : World) (hn : n ≤ 1000000000000) (hcode : CodeRow W v n) (hc : Cur W v n g w) :
    Calls Try.prog 37 #[.pointer (some ⟨g, 0, none⟩)] w fun e w' => ∃ s ∈ texts11, e = .returned (.string (cut11 s).1) ∧ Went W v n g w w' := by
  have HC : Hid (CodeRow W v n) := hcode
  have HW : Hid (Cur W v n g w) := hc
  clear hcode hc
  go_enter Try.func37, Try.ntmps37
  go_wp2_with fail
  refine (below_any W v n g 13 _ hn HC.out HW.out (by omega) (by omega)).mono ?_
  rintro e w1 ⟨x, rfl, ⟨x0, x1⟩, hw1⟩
  have H1 : Hid (Went W v n g w w1) := hw1
  clear hw1
  obtain ⟨k, rfl⟩ := Int.eq_ofNat_of_zero_le x0
  have hk : k < texts11.length := by rw [texts11_len]; omega
  go_wp2_with fail
  refine (split11_is k _ hk).mono ?_
  rintro e w2 ⟨rfl, hb2⟩
  have H2 : Hid (Went W v n g w w2) := went_below2 H1.out hb2
  have HM : Hid (texts11[k] ∈ texts11) := List.getElem_mem _
  clear hb2
  generalize texts11[k] = s at *
  go_wp2
  go_ret
  exact ⟨s, HM.out, rfl, H2.out⟩

end Go.Proofs.Ytipkbkhnaekceaa

namespace Go.Proofs.Ytipkbkhnaekceaa
open Go.RowKit
set_option linter.unusedVariables false

/-- The cells of a list of tokens. -/
def tv (xs : List TokD) : List Value := xs.flatMap fun x => [.int .i64 x.kind, .string x.text]

end Go.Proofs.Ytipkbkhnaekceaa

namespace Go.Proofs.Ytipkbkhnaekceaa
open Go.RowKit
set_option linter.unusedVariables false

theorem texts_rowN (w : World) (cs : Array Value) (t : TypeId) (m k : Nat) (hk : k = cs.size) (h : textsIn m cs = true) : ∀ i, i < k → ∃ y : ByteArray, (w.alloc (.cells cs t)).cell? ⟨w.heap.size, i, none⟩ = some (.string y) ∧ y.size ≤ m := fun i hi => texts_row w cs t m h i (by omega)

end Go.Proofs.Ytipkbkhnaekceaa

namespace Go.Proofs.Ytipkbkhnaekceaa
open Go.RowKit
set_option linter.unusedVariables false

end Go.Proofs.Ytipkbkhnaekceaa

namespace Go.Proofs.Ytipkbkhnaekceaa
open Go.RowKit
set_option linter.unusedVariables false

/-- What ReadSurface and Flatten are asked for at a text. -/
def GrC (s : ByteArray) (g : List RuleD) : Prop := ∃ (ns : List SNodeD) (rs : List SRuleD),
  (∀ W : World, Calls Try.prog 36 #[.string s] W fun e w' => ∃ (nv rv : Value) (b : Bool), e = .returned (.tuple #[.agg #[nv, rv], .bool b]) ∧ Fresh W.heap.size w' (fun V => SNs V nv ns ∧ SRs V rv rs) ∧ Below W.heap.size W w') ∧
  (∀ (A : Nat → Prop) (W : World) (nv rv : Value), (∀ k, A k → k < W.heap.size) → Held A W (fun V => SNs V nv ns ∧ SRs V rv rs) → Calls Try.prog 38 #[.agg #[nv, rv]] W fun e w' => ∃ (o : Value) (b : Bool), e = .returned (.tuple #[.agg #[o], .bool b]) ∧ Held A w' (fun V => RowC 3 RuleE V o g) ∧ Below W.heap.size W w')

set_option maxHeartbeats 1600000 in
set_option maxRecDepth 100000 in
theorem grammar06_of (P : List RuleD → Prop) (hG : ∀ s ∈ texts11, ∃ g, P g ∧ GrC (cut11 s).1 g) (W : World) (v : Value) (n g : Nat) (w : World) (hn : n ≤ 1000000000000) (hcode : CodeRow W v n) (hc : Cur W v n g w) :
    Calls Try.prog 23 #[.pointer (some ⟨g, 0, none⟩)] w fun e w' => ∃ (G : List RuleD) (o : Value), P G ∧ e = .returned (.agg #[o]) ∧ Held (fun k => k < w.heap.size) w' (fun V => RowC 3 RuleE V o G) ∧ Went W v n g w w' := by
  have HC : Hid (CodeRow W v n) := hcode
  have HW : Hid (Cur W v n g w) := hc
  have HG : Hid (∀ s ∈ texts11, ∃ g, P g ∧ GrC (cut11 s).1 g) := hG
  clear hcode hc hG
  go_enter Try.func23, Try.ntmps23
  go_wp2_with fail
  refine (text11_is W v n g _ hn HC.out (went_alloc HW.out _).1).mono ?_
  rintro e w1 ⟨s, hs, rfl, hw1⟩
  obtain ⟨G, hP, ns, rs, hR, hF⟩ := HG.out s hs
  have HR : Hid (∀ W : World, Calls Try.prog 36 #[.string (cut11 s).1] W fun e w' => ∃ (nv rv : Value) (b : Bool), e = .returned (.tuple #[.agg #[nv, rv], .bool b]) ∧ Fresh W.heap.size w' (fun V => SNs V nv ns ∧ SRs V rv rs) ∧ Below W.heap.size W w') := hR
  have HF : Hid (∀ (A : Nat → Prop) (W : World) (nv rv : Value), (∀ k, A k → k < W.heap.size) → Held A W (fun V => SNs V nv ns ∧ SRs V rv rs) → Calls Try.prog 38 #[.agg #[nv, rv]] W fun e w' => ∃ (o : Value) (b : Bool), e = .returned (.tuple #[.agg #[o], .bool b]) ∧ Held A w' (fun V => RowC 3 RuleE V o G) ∧ Below W.heap.size W w') := hF
  have HP : Hid (P G) := hP
  have H1 : Hid (Went W v n g _ w1) := hw1
  clear hR hF hP hw1
  go_wp2_with fail
  refine (HR.out _).mono ?_
  rintro e w2 ⟨nv, rv, b, rfl, hfr, hb2⟩
  have F2 : Hid (Fresh w1.heap.size w2 (fun V => SNs V nv ns ∧ SRs V rv rs)) := hfr
  have B2 : Hid (Below w1.heap.size w1 w2) := hb2
  obtain ⟨⟨an, cn, rfl⟩, ⟨ar, cr, rfl⟩⟩ : (∃ an cn, nv = .slice an ns.length cn) ∧ ∃ ar cr, rv = .slice ar rs.length cr := ⟨RowC.slice (hfr w2 (Nat.le_refl _) (fun _ _ _ => rfl)).1, RowC.slice (hfr w2 (Nat.le_refl _) (fun _ _ _ => rfl)).2⟩
  clear hfr hb2
  go_wp2_with fail
  have ba : Below w2.heap.size w2 (w2.alloc (Obj.cells #[Value.slice an ns.length cn, Value.slice ar rs.length cr] 81)) := (Below.refl _ _).alloc (Nat.le_refl _) _
  refine (HF.out (fun k => k < w1.heap.size) _ _ _ (fun k hk => Nat.lt_of_lt_of_le hk (Nat.le_trans B2.out.size ba.size)) (Held.of_fresh (Fresh.step F2.out ba.size (fun k _ hk => ba.block k hk)) (fun k hk => hk))).mono ?_
  rintro e w3 ⟨o, b', rfl, hh, hb3⟩
  obtain ⟨ao, co, rfl⟩ := RowC.slice hh.here
  have B3 : Hid (Below w1.heap.size w1 w3) := B2.out.trans ((ba.mono B2.out.size).trans (hb3.mono (Nat.le_trans B2.out.size ba.size)))
  have H3 : Hid (Held (fun k => k < w1.heap.size) w3 (fun V => RowC 3 RuleE V (.slice ao G.length co) G)) := hh
  have hsz : w.heap.size < w1.heap.size := by have := H1.out.2.size; simp at this; omega
  have hgw := HW.out.lt
  have X3 : w3.heap[w.heap.size]? = some (.cells #[.slice none 0 0] 26 (0, 0)) := by
    rw [B3.out.block _ hsz, H1.out.2.block _ (by simp) (fun e => by have := Option.some.inj e; omega)]
    exact heap_alloc_new _ _
  have HX3 : Hid _ := X3
  have c0 := run_cell (j := 0) X3 rfl
  have f0 := run_frozen (j := 0) X3
  have hlt3 : w.heap.size < w3.heap.size := Nat.lt_of_lt_of_le hsz B3.out.size
  have hn3 : ¬ w.heap.size = w3.heap.size := by omega
  have hn4 : ¬ w3.heap.size = w.heap.size := by omega
  have ca : (w3.alloc (Obj.cells #[Value.slice ao G.length co] 26)).cell? ⟨w.heap.size, 0, none⟩ = some (.slice none 0 0) := run_cell (j := 0) (((Below.refl w3.heap.size w3).alloc (Nat.le_refl _) _).block _ hlt3 |>.trans X3) rfl
  have fa : (w3.alloc (Obj.cells #[Value.slice ao G.length co] 26)).frozen? ⟨w.heap.size, 0, none⟩ = false := run_frozen (((Below.refl w3.heap.size w3).alloc (Nat.le_refl _) _).block _ hlt3 |>.trans X3)
  obtain ⟨w5, hw5⟩ : ∃ X, X = (w3.setCell ⟨w.heap.size, 0, none⟩ (Value.slice ao G.length co)).alloc (Obj.cells #[Value.slice ao G.length co] 26) := ⟨_, rfl⟩
  have s4 : (w3.setCell ⟨w.heap.size, 0, none⟩ (Value.slice ao G.length co)).heap.size = w3.heap.size := by simp [World.setCell]
  have b5 : Below (w3.setCell ⟨w.heap.size, 0, none⟩ (Value.slice ao G.length co)).heap.size (w3.setCell ⟨w.heap.size, 0, none⟩ (Value.slice ao G.length co)) w5 := by rw [hw5]; exact (Below.refl _ _).alloc (Nat.le_refl _) _
  have Z : w5.heap[w.heap.size]? = some (.cells #[.slice ao G.length co] 26 (0, 0)) := by
    rw [b5.block _ (by rw [s4]; exact hlt3)]
    exact (setCell_self (j := 0) _ X3).trans rfl
  have Z1 : Hid (w5.cell? ⟨w.heap.size, 0, none⟩ = some (.slice ao G.length co)) := run_cell (j := 0) Z rfl
  have e5 : ∀ k, k < w3.heap.size → k ≠ w.heap.size → w5.heap[k]? = w3.heap[k]? := fun k hk hne => (b5.block k (by rw [s4]; exact hk)).trans (setCell_other _ hne)
  have hBW : W.heap.size ≤ w.heap.size := HW.out.1.size
  have hld : Hid (Held (fun k => k < w.heap.size) w5 (fun V => RowC 3 RuleE V (.slice ao G.length co) G)) :=
    ((H3.out.fr (FrA.set (A := fun k => k < w1.heap.size) _ hsz)).fr (FrA.below b5)).away (fun k _ hk => Nat.lt_trans hk hsz)
  have hwn : Hid (Went W v n g w w5) := by
    have h13 := went_below2 H1.out B3.out
    have hB5 : Below W.heap.size W w5 := (h13.1.1.setCell hBW _).trans (b5.mono (by rw [s4]; exact Nat.le_trans hBW (Nat.le_of_lt hlt3)))
    refine ⟨Cur.moved h13.1 hB5 (e5 g (Nat.lt_trans hgw hlt3) (by omega)), ⟨b5.os.trans h13.2.os, b5.tape.trans h13.2.tape, b5.output.trans h13.2.output, ?_, fun k hk hne => ?_⟩⟩
    · have := b5.size; omega
    · rw [e5 k (by omega) (by omega), h13.2.block k (by simp; omega) hne]
      exact ((Below.refl w.heap.size w).alloc (Nat.le_refl _) _).block k hk
  clear hh hb3 ba X3 Z b5 s4 e5 c0 f0
  go_wp2
  have zz := Z1.out
  rw [← hw5]
  refine bodyPost_ret (by simp [results, Try.results23, go_sem, zz]; try rfl) rfl ?_
  exact ⟨G, _, HP.out, rfl, hld.out, hwn.out⟩
end Go.Proofs.Ytipkbkhnaekceaa

namespace Go.Proofs.Ytipkbkhnaekceaa
open Go.RowKit
set_option linter.unusedVariables false

/-- A grammar, turned in one place. -/
inductive AyOut (G : List RuleD) : List RuleD → Prop
  | same : AyOut G G
  | name (i : Nat) (hi : i < G.length) (s : ByteArray) (hs : s.size ≤ 7) : AyOut G (G.set i { G[i] with name := s })
  | params (i : Nat) (hi : i < G.length) (s : ByteArray) (hs : s.size ≤ 7) : AyOut G (G.set i { G[i] with params := G[i].params ++ [s] })
  | noAlts (i : Nat) (hi : i < G.length) : AyOut G (G.set i { G[i] with alts := [] })
  | kind (i j : Nat) (hi : i < G.length) (hj : j < G[i].alts.length) (z : Nat) (hz : z < 6) : AyOut G (G.set i { G[i] with alts := G[i].alts.set j (G[i].alts[j] ++ [⟨z, ⟨#[120]⟩, [], em⟩]) })
  | cond (i j : Nat) (hi : i < G.length) (hj : j < G[i].alts.length) (s : ByteArray) (hs : s.size ≤ 7) : AyOut G (G.set i { G[i] with alts := G[i].alts.set j (G[i].alts[j] ++ [⟨4, em, [varE s], em⟩]) })
  | bind (i j : Nat) (hi : i < G.length) (hj : j < G[i].alts.length) (h0 : 0 < G[i].alts[j].length) (s : ByteArray) (hs : s.size ≤ 7) : AyOut G (G.set i { G[i] with alts := G[i].alts.set j (G[i].alts[j].set 0 { G[i].alts[j][0] with bind := s }) })
  | rest : AyOut G (G.drop 1)

def AnyC (P : List RuleD → Prop) : Prop := ∀ (W : World) (v : Value) (n g : Nat) (w : World), n ≤ 1000000000000 → CodeRow W v n → Cur W v n g w →
    Calls Try.prog 11 #[.pointer (some ⟨g, 0, none⟩)] w fun e w' => ∃ (G G' : List RuleD) (o : Value), P G ∧ AyOut G G' ∧ e = .returned (.agg #[o]) ∧ Held (fun k => k < w.heap.size) w' (fun V => RowC 3 RuleE V o G') ∧ Went W v n g w w'
theorem AyOut.len {G G' : List RuleD} (h : AyOut G G') : G'.length ≤ G.length := by
  cases h <;> simp

end Go.Proofs.Ytipkbkhnaekceaa
