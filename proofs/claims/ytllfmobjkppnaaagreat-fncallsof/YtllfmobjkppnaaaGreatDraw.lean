/- The specification's Flatten, where it makes a right grammar. -/
/- The specification's SurfaceOk, out of contracts on l11Form and l12Flat. -/
/- What the verifier's own draws answer: some number, or some text, within bounds; they write into the cursor that they make and into nothing else. -/
import Derived.Test.YtllfmobjkppnaaaGreatFlF
import Derived.Test.YtllfmobjkppnaaaGreatSfF
import Derived.Test.YtllfmobjkppnaaaGreatFlV
import Derived.Test.YtllfmobjkppnaaaGreatRows
import Derived.Test.YtllfmobjkppnaaaGreatDecPure
import Derived.Deep.RegionHeld3
import Derived.Deep.AppendLies
namespace Go.Proofs.YtllfmobjkppnaaaGreat
open Go.RowKit
set_option linter.unusedVariables false

set_option maxHeartbeats 3200000 in
set_option maxRecDepth 100000 in
theorem flatten_any (A : Nat → Prop) (ns : List SNodeD) (rs : List SRuleD) (hI : SurfIn ns rs) (hfo : formB ns rs = true) (hF : FlatOk ns rs) (nv rv : Value) (W : World) (hA : ∀ k, A k → k < W.heap.size) (hH : Held A W (fun V => SNs V nv ns ∧ SRs V rv rs)) :
    Calls Tryz.prog 23 #[.agg #[nv, rv]] W fun e w' => ∃ (o : Value) (b : Bool), e = .returned (.tuple #[.agg #[o], .bool b]) ∧ Held A w' (fun V => RowC 3 RuleE V o (flatM ns rs)) ∧ Below W.heap.size W w' := by
  obtain ⟨an, cn, rfl⟩ := RowC.slice hH.here.1
  obtain ⟨ar, cr, rfl⟩ := RowC.slice hH.here.2
  obtain ⟨W2, hW2⟩ : ∃ W2, W2 = ((W.alloc (.cells #[.slice an ns.length cn, .slice ar rs.length cr] 59)).alloc (.cells #[.slice none 0 0] 26)) := ⟨_, rfl⟩
  have bW2 : Below W.heap.size W W2 := by rw [hW2]; exact ((Below.refl _ _).alloc (Nat.le_refl _) _).alloc (by simp) _
  have XB : W2.heap[W.heap.size]? = some (.cells #[.slice an ns.length cn, .slice ar rs.length cr] 59 (0, 0)) := by rw [hW2]; exact (Below.heap_alloc _ _ _ (by simp)).trans (heap_alloc_new W _)
  have RB : W2.heap[W.heap.size + 1]? = some (.cells #[.slice none 0 0] 26 (0, 0)) := by
    rw [hW2]
    have := heap_alloc_new (W.alloc (.cells #[.slice an ns.length cn, .slice ar rs.length cr] 59)) (.cells #[.slice none 0 0] 26)
    rwa [show (W.alloc (.cells #[.slice an ns.length cn, .slice ar rs.length cr] 59)).heap.size = W.heap.size + 1 by simp] at this
  have sW2 : W2.heap.size = W.heap.size + 2 := by rw [hW2]; simp
  obtain ⟨A1, hA1⟩ : ∃ A1 : Nat → Prop, A1 = fun k => A k ∨ k = W.heap.size + 1 := ⟨_, rfl⟩
  have hA1w : ∀ k, k < W.heap.size → A1 k → A k := fun k hk a => by
    rw [hA1] at a
    exact a.elim id (fun e => by omega)
  have HA2 : Hid (∀ k, A1 k → k < W2.heap.size) := fun k a => by
    rw [hA1] at a
    rcases a with a | a
    · have := hA k a
      omega
    · omega
  have HAA : Hid (∀ k, A k → A1 k) := fun k a => by rw [hA1]; exact .inl a
  have HAR : Hid (A1 (W.heap.size + 1)) := by rw [Hid, hA1]; exact .inr rfl
  have HH2 : Hid (Held A1 W2 (fun V => SNs V (.slice an ns.length cn) ns ∧ SRs V (.slice ar rs.length cr) rs)) := hH.go (FrA.below bW2) hA1w
  have HXB : Hid _ := XB
  have HRB : Hid _ := RB
  have HBW : Hid (Below W.heap.size W W2) := bW2
  have c0 := run_cell (j := 0) XB rfl
  have c1 := run_cell (j := 1) XB rfl
  have HFo : Hid (∀ _ : Unit, _) := fun _ => form_any ns rs hI (.slice an ns.length cn) (.slice ar rs.length cr) W2 HH2.out.here.1 HH2.out.here.2
  rw [hfo] at HFo
  have HF : Hid (FlatOk ns rs) := hF
  clear hH hA bW2 XB RB hF hA1 hA1w hfo
  go_enter Tryz.func23, Tryz.ntmps23
  rw [hW2] at c0 c1 HFo HH2 HXB HRB HBW
  go_wp2_with fail
  rw [← hW2] at c0 c1 HFo HH2 HXB HRB HBW ⊢
  refine (HFo.out ()).mono ?_
  rintro e w3 ⟨rfl, hb3⟩
  have X3 := (hb3.block _ (Array.getElem?_eq_some_iff.1 HXB.out).1).trans HXB.out
  have R3 := (hb3.block _ (Array.getElem?_eq_some_iff.1 HRB.out).1).trans HRB.out
  have e0 := run_cell (j := 0) X3 rfl
  have e1 := run_cell (j := 1) X3 rfl
  have HR3 : Hid _ := R3
  have HFl : Hid (∀ _ : Unit, _) := fun _ => flatW_any A1 ns rs HF.out an ar cn cr w3 (fun k hk => Nat.lt_of_lt_of_le (HA2.out k hk) hb3.size) (Held.imp (HH2.out.fr (FrA.below hb3)) (fun V h => h.1)) (Held.imp (HH2.out.fr (FrA.below hb3)) (fun V h => h.2))
  have HB3 : Hid (Below W.heap.size W w3) := HBW.out.trans (hb3.mono HBW.out.size)
  clear hb3 X3 R3 c0 c1 HFo HH2 HXB HRB hW2
  go_wp2_with (go_at_call 42; refine (HFl.out ()).mono ?_; rintro e w4 ⟨o4, rfl, hH4, hb4⟩; obtain ⟨ao4, co4, ho4⟩ := hH4.here.slice; subst ho4; have R4 := (hb4.block _ (Array.getElem?_eq_some_iff.1 HR3.out).1).trans HR3.out; have z0 := run_cell (j := 0) R4 rfl; have z1 := run_frozen (j := 0) R4)
  refine bodyPost_ret (by simp [results, Tryz.results23, go_sem, z0]; try rfl) rfl ?_
  refine ⟨_, true, rfl, ?_, ?_⟩
  · exact Held.away (hH4.fr (FrA.set _ HAR.out)) (fun k _ a => HAA.out k a)
  · exact (HB3.out.trans (hb4.mono HB3.out.size)).setCell (Nat.le_succ _) _

end Go.Proofs.YtllfmobjkppnaaaGreat

namespace Go.Proofs.YtllfmobjkppnaaaGreat
open Go.RowKit
set_option linter.unusedVariables false

/-- What l11Form is asked for. -/
def FormC (ns : List SNodeD) (rs : List SRuleD) : Prop := ∀ (B : Nat) (nv rv : Value) (W : World), SNodesO NoA B nv ns W → SRulesO B rv rs W → Calls Tryz.prog 41 #[.agg #[nv, rv]] W fun e w' => e = .returned (.bool (formB ns rs)) ∧ Below W.heap.size W w'
/-- What l12Flat is asked for, by SurfaceOk. -/
def FlatC (ns : List SNodeD) (rs : List SRuleD) : Prop := formB ns rs = true → ∀ (B : Nat) (nv rv : Value) (W : World), SNodesO NoA B nv ns W → SRulesO B rv rs W → Calls Tryz.prog 42 #[.agg #[nv, rv]] W fun e w' => ∃ o l c, e = .returned (.tuple #[.agg #[.slice o l c], .bool (flatB ns rs).isSome]) ∧ Below W.heap.size W w'

set_option maxHeartbeats 3200000 in
set_option maxRecDepth 100000 in
theorem surfaceOk_of (ns : List SNodeD) (rs : List SRuleD) (hFo : FormC ns rs) (hFl : FlatC ns rs) (B : Nat) (nv rv : Value) (W : World) (hN : SNodesO NoA B nv ns W) (hR : SRulesO B rv rs W) :
    Calls Tryz.prog 40 #[.agg #[nv, rv]] W fun e w' => e = .returned (.bool (surfOkB ns rs)) ∧ Below W.heap.size W w' := by
  obtain ⟨an, cn, rfl⟩ := RowO.slice hN
  obtain ⟨ar, cr, rfl⟩ := RowO.slice hR
  have bal : Below W.heap.size W (W.alloc (.cells #[.slice an ns.length cn, .slice ar rs.length cr] 59)) := (Below.refl _ _).alloc (Nat.le_refl _) _
  have N1 : Hid (SNodesO NoA B (.slice an ns.length cn) ns (W.alloc (.cells #[.slice an ns.length cn, .slice ar rs.length cr] 59))) := sNodes_below hN bal
  have L1 : Hid (SRulesO B (.slice ar rs.length cr) rs (W.alloc (.cells #[.slice an ns.length cn, .slice ar rs.length cr] 59))) := sRules_below hR bal
  have X1 := heap_alloc_new W (.cells #[.slice an ns.length cn, .slice ar rs.length cr] 59)
  have HX1 : Hid _ := X1
  have c0 := run_cell (j := 0) X1 rfl
  have c1 := run_cell (j := 1) X1 rfl
  have HB1 : Hid (Below W.heap.size W (W.alloc (.cells #[.slice an ns.length cn, .slice ar rs.length cr] 59))) := bal
  have HFo : Hid (FormC ns rs) := hFo
  have HFl : Hid (FlatC ns rs) := hFl
  clear bal hN hR X1 hFo hFl
  go_enter Tryz.func40, Tryz.ntmps40
  go_wp2_with fail
  generalize W.alloc (.cells #[.slice an ns.length cn, .slice ar rs.length cr] 59) = W1 at *
  refine (HFo.out B _ _ W1 N1.out L1.out).mono ?_
  rintro e w2 ⟨rfl, hb2⟩
  have X2 := (hb2.block _ (Array.getElem?_eq_some_iff.1 HX1.out).1).trans HX1.out
  have d0 := run_cell (j := 0) X2 rfl
  have d1 := run_cell (j := 1) X2 rfl
  have N2 : Hid (SNodesO NoA B (.slice an ns.length cn) ns w2) := sNodes_below N1.out hb2
  have L2 : Hid (SRulesO B (.slice ar rs.length cr) rs w2) := sRules_below L1.out hb2
  have HB2 : Hid (Below W.heap.size W w2) := HB1.out.trans (hb2.mono HB1.out.size)
  clear hb2 X2 N1 L1 HX1 HB1 c0 c1
  cases hf : formB ns rs with
  | false =>
    have HV : Hid (surfOkB ns rs = false) := by rw [Hid, surfOkB, hf]; rfl
    clear hf
    go_wp2
    (try simp only [Exit.inBlock, Exit.then])
    refine bodyPost_ret (by simp [results, Tryz.results40, go_sem]; try rfl) rfl ?_
    exact ⟨by rw [HV.out], HB2.out⟩
  | true =>
    have HV : Hid (surfOkB ns rs = (flatB ns rs).isSome) := by rw [Hid, surfOkB, hf]; rfl
    have HC : Hid (∀ _ : Unit, _) := fun _ => HFl.out hf B _ _ w2 N2.out L2.out
    clear hf
    go_wp2_with fail
    refine (HC.out ()).mono ?_
    rintro e w3 ⟨o, l, c, rfl, hb3⟩
    have HB3 : Hid (Below W.heap.size W w3) := HB2.out.trans (hb3.mono HB2.out.size)
    have HB4 : Hid (Below W.heap.size W (w3.alloc (.cells #[.slice o l c] 26))) := HB3.out.alloc HB3.out.size _
    generalize (flatB ns rs).isSome = b at *
    clear HC hb3
    go_wp2
    (try simp only [Exit.inBlock, Exit.then])
    refine bodyPost_ret (by simp [results, Tryz.results40, go_sem]; try rfl) rfl ?_
    exact ⟨by rw [HV.out], HB4.out⟩

end Go.Proofs.YtllfmobjkppnaaaGreat

namespace Go.Proofs.YtllfmobjkppnaaaGreat
open Go.RowKit

theorem i64_and255 (n : Int) : bits .and .i64 n 255 = n % 256 := by
  have h1 : (BitVec.ofInt 64 255).toNat = 2 ^ 8 - 1 := by decide
  have key : (BitVec.ofInt 64 n &&& BitVec.ofInt 64 255).toNat = (n % ((2 ^ 64 : Nat) : Int)).toNat % 2 ^ 8 := by
    rw [BitVec.toNat_and, BitVec.toNat_ofInt, h1, Nat.and_two_pow_sub_one_eq_mod]
  show IntKind.i64.wrap ((BitVec.ofInt 64 n &&& BitVec.ofInt 64 255).toNat : Nat) = n % 256
  rw [key, IntKind.wrap_i64]
  omega

theorem i64_and30 (n : Int) : bits .and .i64 n 1073741823 = n % 1073741824 := by
  have h1 : (BitVec.ofInt 64 1073741823).toNat = 2 ^ 30 - 1 := by decide
  have key : (BitVec.ofInt 64 n &&& BitVec.ofInt 64 1073741823).toNat = (n % ((2 ^ 64 : Nat) : Int)).toNat % 2 ^ 30 := by
    rw [BitVec.toNat_and, BitVec.toNat_ofInt, h1, Nat.and_two_pow_sub_one_eq_mod]
  show IntKind.i64.wrap ((BitVec.ofInt 64 n &&& BitVec.ofInt 64 1073741823).toNat : Nat) = n % 1073741824
  rw [key, IntKind.wrap_i64]
  omega

/-- The bytes that a draw is made of, as they came in. -/
def CodeRow (W : World) (v : Value) (n : Nat) : Prop :=
  ∃ a cap, v = .slice a n cap ∧ (0 < n → ∃ b off, a = some ⟨b, off, none⟩ ∧ b < W.heap.size ∧ ∀ i, i < n → ∃ z : Int, 0 ≤ z ∧ z < 256 ∧ W.cell? ⟨b, off + i, none⟩ = some (.int .u8 z))

/-- The cursor: three cells of the call's own: the bytes, a place in them, a number. -/
def Cur (W : World) (v : Value) (n g : Nat) (w : World) : Prop :=
  Below W.heap.size W w ∧ W.heap.size ≤ g ∧ ∃ i h : Int, 0 ≤ i ∧ i ≤ n ∧ -9223372036854775808 ≤ h ∧ h ≤ 9223372036854775807 ∧ w.heap[g]? = some (.cells #[v, .int .i64 i, .int .i64 h] 65 (0, 0))

theorem Cur.moved {W w w' : World} {v : Value} {n g : Nat} (h : Cur W v n g w) (hb : Below W.heap.size W w') (hg : w'.heap[g]? = w.heap[g]?) : Cur W v n g w' := by
  obtain ⟨_, h2, i, hh, h3, h4, h5, h6, h7⟩ := h
  exact ⟨hb, h2, i, hh, h3, h4, h5, h6, by rw [hg]; exact h7⟩

theorem Cur.lt {W w : World} {v : Value} {n g : Nat} (h : Cur W v n g w) : g < w.heap.size := by
  obtain ⟨_, _, _, _, _, _, _, _, h7⟩ := h
  exact (Array.getElem?_eq_some_iff.1 h7).1

theorem wrap64_in2 (y : Int) : -9223372036854775808 ≤ wrap64 y ∧ wrap64 y ≤ 9223372036854775807 := by unfold wrap64; omega

/-- Behind a draw that takes no byte. -/
theorem cur_h {W w : World} {v : Value} {n g : Nat} {i h : Int} (hb : Below W.heap.size W w) (hg : W.heap.size ≤ g) (h1 : 0 ≤ i) (h2 : i ≤ n)
    (h5 : w.heap[g]? = some (.cells #[v, .int .i64 i, .int .i64 h] 65 (0, 0))) (y : Int) (q : Nat) :
    Cur W v n g ((w.setCell ⟨g, 2, none⟩ (.int .i64 (wrap64 y))).drewN q) ∧ w.grownBy ((w.setCell ⟨g, 2, none⟩ (.int .i64 (wrap64 y))).drewN q) (some g) := by
  have hy := wrap64_in2 y
  refine ⟨⟨bel_drewN (hb.setCell hg _) q, hg, i, wrap64 y, h1, h2, hy.1, hy.2, ?_⟩, ⟨rfl, rfl, rfl, by simp, fun k _ hk => ?_⟩⟩
  · rw [World.heap_drewN, heap_setCell_same w g 2 _ _ _ h5]
    simp
  · rw [World.heap_drewN]
    exact heap_setCell_other w ⟨g, 2, none⟩ k _ (fun e => hk (by simp [e]))

/-- Behind a draw that takes a byte. -/
theorem cur_hi {W w : World} {v : Value} {n g : Nat} {i h : Int} (hb : Below W.heap.size W w) (hg : W.heap.size ≤ g) (h1 : 0 ≤ i) (h2 : i < n)
    (h5 : w.heap[g]? = some (.cells #[v, .int .i64 i, .int .i64 h] 65 (0, 0))) (y : Int) (q : Nat) :
    Cur W v n g (((w.setCell ⟨g, 2, none⟩ (.int .i64 (wrap64 y))).setCell ⟨g, 1, none⟩ (.int .i64 (i + 1))).drewN q) ∧ w.grownBy (((w.setCell ⟨g, 2, none⟩ (.int .i64 (wrap64 y))).setCell ⟨g, 1, none⟩ (.int .i64 (i + 1))).drewN q) (some g) := by
  have hy := wrap64_in2 y
  have h6 := heap_setCell_same w g 2 _ _ (.int .i64 (wrap64 y)) h5
  refine ⟨⟨bel_drewN ((hb.setCell hg _).setCell hg _) q, hg, i + 1, wrap64 y, by omega, by omega, hy.1, hy.2, ?_⟩, ⟨rfl, rfl, rfl, by simp, fun k _ hk => ?_⟩⟩
  · rw [World.heap_drewN, heap_setCell_same _ g 1 _ _ _ h6]
    simp
  · rw [World.heap_drewN, heap_setCell_other _ ⟨g, 1, none⟩ k _ (fun e => hk (by simp [e]))]
    exact heap_setCell_other w ⟨g, 2, none⟩ k _ (fun e => hk (by simp [e]))

set_option maxHeartbeats 1600000 in
set_option maxRecDepth 100000 in
theorem byte_any (W : World) (v : Value) (n g : Nat) (w : World) (hn : n ≤ 1000000000000) (hcode : CodeRow W v n) (hc : Cur W v n g w) :
    Calls Tryz.prog 44 #[.pointer (some ⟨g, 0, none⟩)] w fun e w' => ∃ x : Int, e = .returned (.int .i64 x) ∧ 0 ≤ x ∧ x < 256 ∧ Cur W v n g w' ∧ w.grownBy w' (some g) := by
  obtain ⟨hb, hg, i, h, h1, h2, h3, h4, h5⟩ := hc
  have HC : Hid (CodeRow W v n) := hcode
  have HB : Hid (Below W.heap.size W w) := hb
  have H5 : Hid (w.heap[g]? = some (.cells #[v, .int .i64 i, .int .i64 h] 65 (0, 0))) := h5
  clear hcode hb h5
  have c0 : w.cell? ⟨g, 0, none⟩ = some v := by rw [cell_of_row w g 0 _ _ _ H5.out]; rfl
  have c1 : w.cell? ⟨g, 1, none⟩ = some (.int .i64 i) := by rw [cell_of_row w g 1 _ _ _ H5.out]; rfl
  have c2 : w.cell? ⟨g, 2, none⟩ = some (.int .i64 h) := by rw [cell_of_row w g 2 _ _ _ H5.out]; rfl
  have f1 : w.frozen? ⟨g, 1, none⟩ = false := frozen_of_row w g 1 _ _ H5.out
  have f2 : w.frozen? ⟨g, 2, none⟩ = false := frozen_of_row w g 2 _ _ H5.out
  by_cases hlt : i < n
  · obtain ⟨a, cap, rfl, hcell⟩ := HC.out
    obtain ⟨b, off, rfl, hbl, hcell⟩ := hcell (by omega)
    obtain ⟨k, rfl⟩ := Int.eq_ofNat_of_zero_le h1
    obtain ⟨z, z0, z1, hz⟩ := hcell k (by omega)
    have hz2 : w.cell? ⟨b, off + k, none⟩ = some (.int .u8 z) := (HB.out.cell hbl).trans hz
    have hne : b ≠ g := by omega
    clear hcell hz
    have hlt1 : (k : Int) < (n : Int) := by omega
    have e255 := i64_and255
    have ez : IntKind.i64.wrap z = z := wrap_small z z0 (by omega)
    go_enter Tryz.func44, Tryz.ntmps44
    go_wp2
    go_quiet (fail)
    go_wp2
    go_quiet (fail)
    go_wp2
    go_quiet (fail)
    go_wp2
    go_ret
    exact ⟨_, rfl, by omega, by omega, cur_hi HB.out hg h1 hlt H5.out _ _⟩
  · obtain ⟨a, cap, rfl, _⟩ := HC.out
    have hge : (n : Int) ≤ i := by omega
    have e255 := i64_and255
    go_enter Tryz.func44, Tryz.ntmps44
    go_wp2
    go_quiet (fail)
    go_wp2
    go_quiet (fail)
    go_wp2
    go_ret
    simp only [World.drewN_drewN]
    exact ⟨_, rfl, by omega, by omega, cur_h HB.out hg h1 h2 H5.out _ _⟩

/-- A contract's part of the world: the cursor goes on, and nothing but its block and new ones has turned. -/
def Went (W : World) (v : Value) (n g : Nat) (w w' : World) : Prop := Cur W v n g w' ∧ w.grownBy w' (some g)

theorem went_trans {W : World} {v : Value} {n g : Nat} {w w1 w2 : World} (h : Went W v n g w w1) (k : Went W v n g w1 w2) : Went W v n g w w2 :=
  ⟨k.1, ⟨k.2.os.trans h.2.os, k.2.tape.trans h.2.tape, k.2.output.trans h.2.output, Nat.le_trans h.2.size k.2.size, fun i hi hr => (k.2.block i (Nat.lt_of_lt_of_le hi h.2.size) hr).trans (h.2.block i hi hr)⟩⟩

theorem byte_went (W : World) (v : Value) (n g : Nat) (w : World) (hn : n ≤ 1000000000000) (hcode : CodeRow W v n) (hc : Cur W v n g w) :
    Calls Tryz.prog 44 #[.pointer (some ⟨g, 0, none⟩)] w fun e w' => ∃ x : Int, e = .returned (.int .i64 x) ∧ (0 ≤ x ∧ x < 256) ∧ Went W v n g w w' := by
  refine (byte_any W v n g w hn hcode hc).mono ?_
  rintro e w' ⟨x, rfl, h1, h2, h3, h4⟩
  exact ⟨x, rfl, ⟨h1, h2⟩, h3, h4⟩

set_option maxHeartbeats 800000 in
theorem below_any (W : World) (v : Value) (n g : Nat) (m : Int) (w : World) (hn : n ≤ 1000000000000) (hcode : CodeRow W v n) (hc : Cur W v n g w) (hm : 0 < m) (hm1 : m ≤ 4294967296) :
    Calls Tryz.prog 25 #[.pointer (some ⟨g, 0, none⟩), .int .i64 m] w fun e w' => ∃ x : Int, e = .returned (.int .i64 x) ∧ (0 ≤ x ∧ x < m) ∧ Went W v n g w w' := by
  have HC : Hid (CodeRow W v n) := hcode
  have HW : Hid (Cur W v n g w) := hc
  clear hcode hc
  by_cases h : m ≤ 256
  · go_enter Tryz.func25, Tryz.ntmps25
    go_wp2_with fail
    refine (byte_went W v n g _ hn HC.out HW.out).mono ?_
    rintro e w1 ⟨x, rfl, ⟨x0, x1⟩, hw1⟩
    have H1 : Hid (Went W v n g w w1) := hw1
    clear hw1
    go_wp2
    go_ret
    exact ⟨_, rfl, ⟨Int.emod_nonneg _ (by omega), Int.emod_lt_of_pos _ hm⟩, H1.out⟩
  · have h1 : 256 < m := by omega
    go_enter Tryz.func25, Tryz.ntmps25
    go_wp2_with fail
    refine (byte_went W v n g _ hn HC.out HW.out).mono ?_
    rintro e w1 ⟨x, rfl, ⟨x0, x1⟩, hw1⟩
    have H1 : Hid (Went W v n g w w1) := hw1
    clear hw1
    go_wp2_with fail
    refine (byte_went W v n g _ hn HC.out H1.out.1).mono ?_
    rintro e w2 ⟨y, rfl, ⟨y0, y1⟩, hw2⟩
    have H2 : Hid (Went W v n g w w2) := went_trans H1.out hw2
    clear hw2
    go_wp2_with fail
    refine (byte_went W v n g _ hn HC.out H2.out.1).mono ?_
    rintro e w3 ⟨z, rfl, ⟨z0, z1⟩, hw3⟩
    have H3 : Hid (Went W v n g w w3) := went_trans H2.out hw3
    clear hw3
    go_wp2_with fail
    refine (byte_went W v n g _ hn HC.out H3.out.1).mono ?_
    rintro e w4 ⟨t, rfl, ⟨t0, t1⟩, hw4⟩
    have H4 : Hid (Went W v n g w w4) := went_trans H3.out hw4
    clear hw4
    go_wp2
    go_ret
    exact ⟨_, rfl, ⟨Int.emod_nonneg _ (by omega), Int.emod_lt_of_pos _ hm⟩, H4.out⟩

theorem once_any (W : World) (v : Value) (n g : Nat) (m : Int) (w : World) (hn : n ≤ 1000000000000) (hcode : CodeRow W v n) (hc : Cur W v n g w) (hm : 0 < m) (hm1 : m ≤ 4294967296) :
    Calls Tryz.prog 26 #[.pointer (some ⟨g, 0, none⟩), .int .i64 m] w fun e w' => ∃ b : Bool, e = .returned (.bool b) ∧ Went W v n g w w' := by
  have HC : Hid (CodeRow W v n) := hcode
  have HW : Hid (Cur W v n g w) := hc
  clear hcode hc
  go_enter Tryz.func26, Tryz.ntmps26
  go_wp2_with fail
  refine (below_any W v n g m _ hn HC.out HW.out hm hm1).mono ?_
  rintro e w1 ⟨x, rfl, ⟨x0, x1⟩, hw1⟩
  have H1 : Hid (Went W v n g w w1) := hw1
  clear hw1
  go_wp2
  go_ret
  exact ⟨_, rfl, H1.out⟩

end Go.Proofs.YtllfmobjkppnaaaGreat
