/- A drawn grammar, turned in one place; the contract of l06Any. -/
/- The verifier's drawn grammar and text, out of contracts on ReadSurface and Flatten. -/
/- DrawGrammarOk, out of a contract on l06Any. -/
/- The end of the specification's l12Make.group: the alternatives by the group's kind. -/
/- The figure of a half byte: what the specification's function answers at 0 .. 15. -/
/- Decimal: what the specification's function answers, at every int. -/
import Derived.Test.YtpbicppcehhphaaGreatDoorDraw3
import Derived.Test.YtpbicppcehhphaaGreatDoorDrP
import Derived.Test.YtpbicppcehhphaaGreatDoorRows
import Derived.Test.YtpbicppcehhphaaGreatDoorDecPure
namespace Go.Proofs.YtpbicppcehhphaaGreatDoor
open Go.RowKit
set_option linter.unusedVariables false
inductive AyOut (G : List RuleD) : List RuleD → Prop
 | same : AyOut G G
 | name (i : Nat) (hi : i < G.length) (s : ByteArray) (hs : s.size ≤ 7) : AyOut G (G.set i { G[i] with name := s })
 | params (i : Nat) (hi : i < G.length) (s : ByteArray) (hs : s.size ≤ 7) : AyOut G (G.set i { G[i] with params := G[i].params ++ [s] })
 | noAlts (i : Nat) (hi : i < G.length) : AyOut G (G.set i { G[i] with alts := [] })
 | kind (i j : Nat) (hi : i < G.length) (hj : j < G[i].alts.length) (z : Nat) (hz : z < 6) : AyOut G (G.set i { G[i] with alts := G[i].alts.set j (G[i].alts[j] ++ [⟨z, ⟨#[120]⟩, [], em⟩]) })
 | cond (i j : Nat) (hi : i < G.length) (hj : j < G[i].alts.length) (s : ByteArray) (hs : s.size ≤ 7) : AyOut G (G.set i { G[i] with alts := G[i].alts.set j (G[i].alts[j] ++ [⟨4, em, [varE s], em⟩]) })
 | bind (i j : Nat) (hi : i < G.length) (hj : j < G[i].alts.length) (h0 : 0 < G[i].alts[j].length) (s : ByteArray) (hs : s.size ≤ 7) : AyOut G (G.set i { G[i] with alts := G[i].alts.set j (G[i].alts[j].set 0 { G[i].alts[j][0] with bind := s }) })
 | rest : AyOut G (G.drop 1)
def AnyC (P : List RuleD → Prop) : Prop := ∀ (W : World) (v : Value) (n g : Nat) (w : World), n ≤ 1000000000000 → CodeRow W v n → Cur W v n g w →
  Calls Tryz.prog 9 #[.pointer (some ⟨g, 0, none⟩)] w fun e w' => ∃ (G G' : List RuleD) (o : Value), P G ∧ AyOut G G' ∧ e = .returned (.agg #[o]) ∧ Held (fun k => k < w.heap.size) w' (fun V => RowC 3 RuleE V o G') ∧ Went W v n g w w'
theorem AyOut.len {G G' : List RuleD} (h : AyOut G G') : G'.length ≤ G.length := by
 cases h <;> simp
end Go.Proofs.YtpbicppcehhphaaGreatDoor

namespace Go.Proofs.YtpbicppcehhphaaGreatDoor
open Go.RowKit
set_option maxHeartbeats 3200000
set_option maxRecDepth 100000
set_option linter.unusedVariables false
noncomputable def letters13 : Bool := texts11.all fun s => decide (0 < (cut11 s).2.size ∧ (cut11 s).2.size ≤ 200)
theorem letters13_is : letters13 = true := by kernel_rfl
theorem letters_in {s : ByteArray} (h : s ∈ texts11) : 0 < (cut11 s).2.size ∧ (cut11 s).2.size ≤ 200 := by
 have := List.all_eq_true.1 letters13_is s h
 simpa using this
theorem box_end {W : World} {v : Value} {n g s1 : Nat} {w w5 : World} {T : TypeId} {P : World → Prop} (u : Value) (hW : Cur W v n g w) (W5 : Went W v n g (w.alloc (.cells #[.slice none 0 0] T)) w5) (hsz : w.heap.size < s1) (H5 : Held (fun k => k < s1) w5 P) :
  w5.cell? ⟨w.heap.size, 0, none⟩ = some (.slice none 0 0) ∧ w5.frozen? ⟨w.heap.size, 0, none⟩ = false ∧ Held (fun k => k < w.heap.size) (w5.setCell ⟨w.heap.size, 0, none⟩ u) P ∧ Went W v n g w (w5.setCell ⟨w.heap.size, 0, none⟩ u) ∧ (w5.setCell ⟨w.heap.size, 0, none⟩ u).cell? ⟨w.heap.size, 0, none⟩ = some u := by
 have hgw := hW.lt
 have X5 : w5.heap[w.heap.size]? = some (.cells #[.slice none 0 0] T (0, 0)) := by
  rw [W5.2.block _ (by simp) (fun e => by have := Option.some.inj e; omega)]
  exact heap_alloc_new _ _
 have h5 : w.heap.size < w5.heap.size := (Array.getElem?_eq_some_iff.1 X5).1
 have hBW : W.heap.size ≤ w.heap.size := hW.1.size
 have s6 : (w5.setCell ⟨w.heap.size, 0, none⟩ u).heap.size = w5.heap.size := by simp [World.setCell]
 refine ⟨run_cell (j := 0) X5 rfl, run_frozen X5, (H5.fr (FrA.set (A := fun k => k < s1) _ hsz)).away (fun k _ hk => Nat.lt_trans hk hsz), ⟨Cur.moved W5.1 (W5.1.1.setCell hBW _) (setCell_other _ (by omega)), ⟨W5.2.os, W5.2.tape, W5.2.output, by rw [s6]; omega, fun k hk hne => ?_⟩⟩, run_cell (j := 0) (setCell_self (j := 0) u X5) rfl⟩
 rw [setCell_other _ (by omega), W5.2.block k (by simp; omega) hne]
 exact ((Below.refl w.heap.size w).alloc (Nat.le_refl _) _).block k hk
theorem pair11_of (P : List RuleD → Prop) (hG : ∀ s ∈ texts11, ∃ g, P g ∧ GrC (cut11 s).1 g) (W : World) (v : Value) (n g : Nat) (w : World) (hn : n ≤ 1000000000000) (hcode : CodeRow W v n) (hc : Cur W v n g w) :
  Calls Tryz.prog 11 #[.pointer (some ⟨g, 0, none⟩)] w fun e w' => ∃ (G : List RuleD) (o : Value) (t : ByteArray), P G ∧ e = .returned (.tuple #[.agg #[o], .string t]) ∧ t.size ≤ 8 ∧ Held (fun k => k < w.heap.size) w' (fun V => RowC 3 RuleE V o G) ∧ Went W v n g w w' := by
 have HC : Hid (CodeRow W v n) := hcode
 have HW : Hid (Cur W v n g w) := hc
 have HG : Hid (∀ s ∈ texts11, ∃ g, P g ∧ GrC (cut11 s).1 g) := hG
 clear hcode hc hG
 go_enter Tryz.func11, Tryz.ntmps11
 go_wp2_with fail
 refine (below_any W v n g 13 _ hn HC.out (went_alloc HW.out _).1 (by omega) (by omega)).mono ?_
 rintro e wa ⟨x, rfl, ⟨x0, x1⟩, hwa⟩
 have Ha : Hid (Went W v n g _ wa) := hwa
 clear hwa
 obtain ⟨kx, rfl⟩ := Int.eq_ofNat_of_zero_le x0
 have hkx : kx < texts11.length := by rw [texts11_len]; omega
 go_wp2_with fail
 refine (split11_is kx _ hkx).mono ?_
 rintro e wb ⟨rfl, hbb⟩
 have Hb : Hid (Went W v n g _ wb) := went_below2 Ha.out hbb
 obtain ⟨G, hP, ns, rs, hR, hF⟩ := HG.out texts11[kx] (List.getElem_mem _)
 have hl := letters_in (List.getElem_mem hkx)
 clear hbb Ha HG
 generalize (cut11 texts11[kx]).1 = S at *
 generalize (cut11 texts11[kx]).2 = T at *
 have HR : Hid (∀ W : World, Calls Tryz.prog 23 #[.string S] W fun e w' => ∃ (nv rv : Value) (b : Bool), e = .returned (.tuple #[.agg #[nv, rv], .bool b]) ∧ Fresh W.heap.size w' (fun V => SNs V nv ns ∧ SRs V rv rs) ∧ Below W.heap.size W w') := hR
 have HF : Hid (∀ (A : Nat → Prop) (W : World) (nv rv : Value), (∀ k, A k → k < W.heap.size) → Held A W (fun V => SNs V nv ns ∧ SRs V rv rs) → Calls Tryz.prog 24 #[.agg #[nv, rv]] W fun e w' => ∃ (o : Value) (b : Bool), e = .returned (.tuple #[.agg #[o], .bool b]) ∧ Held A w' (fun V => RowC 3 RuleE V o G) ∧ Below W.heap.size W w') := hF
 have HP : Hid (P G) := hP
 clear hR hF hP
 go_wp2
 go_loopw [6, 7] (fun sv iv wr => ∃ (s : ByteArray) (k : Nat), sv = .string s ∧ iv = .int .i64 k ∧ k ≤ 7 ∧ s.size ≤ k ∧ Went W v n g (w.alloc (.cells #[.slice none 0 0] 26)) wr) (fun _ iv _ => 8 - (intOf iv).toNat)
 case atStart => exact ⟨_, 0, rfl, rfl, by omega, by decide, Hb.out⟩
 case round =>
  obtain ⟨s, k, rfl, rfl, hk, hs, hw⟩ := hrel
  have Hr : Hid (Went W v n g (w.alloc (.cells #[.slice none 0 0] 26)) wr) := hw
  clear hw
  go_wp2_with fail
  refine (below_any W v n g 7 _ hn HC.out Hr.out.1 (by omega) (by omega)).mono ?_
  rintro e w1 ⟨y, rfl, ⟨y0, y1⟩, hw1⟩
  have H1 : Hid (Went W v n g (w.alloc (.cells #[.slice none 0 0] 26)) w1) := went_trans Hr.out hw1
  clear hw1
  by_cases c : (k : Int) < y
  ·go_wp2_with fail
   refine (below_any W v n g (T.size : Int) _ hn HC.out H1.out.1 (by omega) (by omega)).mono ?_
   rintro e w2 ⟨z, rfl, ⟨z0, z1⟩, hw2⟩
   have H2 : Hid (Went W v n g (w.alloc (.cells #[.slice none 0 0] 26)) w2) := went_trans H1.out hw2
   clear hw2
   obtain ⟨j, rfl⟩ := Int.eq_ofNat_of_zero_le z0
   obtain ⟨C, hC⟩ : ∃ C, T.extract j (j + 1) = C := ⟨_, rfl⟩
   have hC1 : C.size = 1 := by rw [← hC, ByteArray.size_extract]; omega
   have i1 : (0 : Int) ≤ (j : Int) := by omega
   have i2 : (j : Int) + 1 ≤ (T.size : Int) := by omega
   have i3 : (j : Int) ≤ (j : Int) + 1 := by omega
   have i5 : IntKind.i64.wrap ((j : Int) + 1) = (j : Int) + 1 := by rw [IntKind.wrap_i64]; omega
   have hr := fun W => run_string_add_sum (P := Tryz.prog) W s C (by omega)
   go_wp2
   go_roundw
   case rel => exact ⟨_, k + 1, rfl, by go_num, by omega, by rw [ByteArray.size_append]; omega, H2.out⟩
   case measure => simp [intOf]; omega
  ·clear hl
   go_wp2_with fail
   refine (HR.out _).mono ?_
   rintro e w2 ⟨nv, rv, b, rfl, hfr, hb2⟩
   have F2 : Hid (Fresh w1.heap.size w2 (fun V => SNs V nv ns ∧ SRs V rv rs)) := hfr
   have B2 : Hid (Below w1.heap.size w1 w2) := hb2
   obtain ⟨⟨an, cn, rfl⟩, ⟨ar, cr, rfl⟩⟩ : (∃ an cn, nv = .slice an ns.length cn) ∧ ∃ ar cr, rv = .slice ar rs.length cr := ⟨RowC.slice (hfr w2 (Nat.le_refl _) (fun _ _ _ => rfl)).1, RowC.slice (hfr w2 (Nat.le_refl _) (fun _ _ _ => rfl)).2⟩
   clear hfr hb2
   go_wp2_with fail
   have ba : Below w2.heap.size w2 (w2.alloc (Obj.cells #[Value.slice an ns.length cn, Value.slice ar rs.length cr] 63)) := (Below.refl _ _).alloc (Nat.le_refl _) _
   refine (HF.out (fun k => k < w1.heap.size) _ _ _ (fun k hk => Nat.lt_of_lt_of_le hk (Nat.le_trans B2.out.size ba.size)) (Held.of_fresh (Fresh.step F2.out ba.size (fun k _ hk => ba.block k hk)) (fun k hk => hk))).mono ?_
   rintro e w3 ⟨o, b', rfl, hh, hb3⟩
   obtain ⟨ao, co, rfl⟩ := RowC.slice hh.here
   have B3 : Hid (Below w1.heap.size w1 w3) := B2.out.trans ((ba.mono B2.out.size).trans (hb3.mono (Nat.le_trans B2.out.size ba.size)))
   have bo : Below w3.heap.size w3 (w3.alloc (Obj.cells #[Value.slice ao G.length co] 26)) := (Below.refl _ _).alloc (Nat.le_refl _) _
   have H3 : Hid (Held (fun k => k < w1.heap.size) (w3.alloc (Obj.cells #[Value.slice ao G.length co] 26)) (fun V => RowC 3 RuleE V (.slice ao G.length co) G)) := hh.fr (FrA.below bo)
   have W3 : Hid (Went W v n g (w.alloc (.cells #[.slice none 0 0] 26)) (w3.alloc (Obj.cells #[Value.slice ao G.length co] 26))) := went_below2 (went_below2 H1.out B3.out) bo
   have Y3 : Hid ((w3.alloc (Obj.cells #[Value.slice ao G.length co] 26)).heap[w3.heap.size]? = some (.cells #[.slice ao G.length co] 26 (0, 0))) := heap_alloc_new _ _
   have hsz : w.heap.size < w1.heap.size := by have := H1.out.2.size; simp at this; omega
   have hs3 : w1.heap.size ≤ w3.heap.size := B3.out.size
   have hgw := HW.out.lt
   have hs4 : (w3.alloc (Obj.cells #[Value.slice ao G.length co] 26)).heap.size = w3.heap.size + 1 := by simp
   clear hh hb3 ba bo
   go_wp2_with fail
   refine (once_any W v n g 8 _ hn HC.out W3.out.1 (by omega) (by omega)).mono ?_
   rintro e w4 ⟨b4, rfl, hw4⟩
   have W4 : Hid (Went W v n g (w.alloc (.cells #[.slice none 0 0] 26)) w4) := went_trans W3.out hw4
   have H4 : Hid (Held (fun k => k < w1.heap.size) w4 (fun V => RowC 3 RuleE V (.slice ao G.length co) G)) := H3.out.fr (FrA.grown hw4.2 (fun k hk => by have := Option.some.inj hk; omega))
   have Y4 : Hid (w4.heap[w3.heap.size]? = some (.cells #[.slice ao G.length co] 26 (0, 0))) := (hw4.2.block _ (by rw [hs4]; omega) (fun e => by have := Option.some.inj e; omega)).trans Y3.out
   clear hw4 W3 H3 Y3 hs4
   cases b4 with
   | false =>
    obtain ⟨c1, f1, hld, hwn, hz⟩ := box_end (.slice ao G.length co) HW.out W4.out hsz H4.out
    have HL : Hid _ := hld
    have HN : Hid _ := hwn
    have HZ : Hid _ := hz
    have c2 := run_cell (j := 0) Y4.out rfl
    clear hld hwn hz
    go_wp2
    have zz := HZ.out
    refine bodyPost_ret (by simp [results, Tryz.results11, go_sem, zz]; try rfl) rfl ?_
    exact ⟨G, _, _, HP.out, rfl, by omega, HL.out, HN.out⟩
   | true =>
    go_wp2_with fail
    refine (text07_any W v n g _ hn HC.out W4.out.1).mono ?_
    rintro e w5 ⟨t5, rfl, ht5, hw5⟩
    have W5 : Hid (Went W v n g (w.alloc (.cells #[.slice none 0 0] 26)) w5) := went_trans W4.out hw5
    have H5 : Hid (Held (fun k => k < w1.heap.size) w5 (fun V => RowC 3 RuleE V (.slice ao G.length co) G)) := H4.out.fr (FrA.grown hw5.2 (fun k hk => by have := Option.some.inj hk; omega))
    have Y5 : Hid (w5.heap[w3.heap.size]? = some (.cells #[.slice ao G.length co] 26 (0, 0))) := (hw5.2.block _ (Array.getElem?_eq_some_iff.1 Y4.out).1 (fun e => by have := Option.some.inj e; omega)).trans Y4.out
    clear hw5 W4 H4 Y4
    obtain ⟨c1, f1, hld, hwn, hz⟩ := box_end (.slice ao G.length co) HW.out W5.out hsz H5.out
    have HL : Hid _ := hld
    have HN : Hid _ := hwn
    have HZ : Hid _ := hz
    have c2 := run_cell (j := 0) Y5.out rfl
    clear hld hwn hz
    go_wp2
    have zz := HZ.out
    refine bodyPost_ret (by simp [results, Tryz.results11, go_sem, zz]; try rfl) rfl ?_
    exact ⟨G, _, _, HP.out, rfl, ht5, HL.out, HN.out⟩
end Go.Proofs.YtpbicppcehhphaaGreatDoor

namespace Go.Proofs.YtpbicppcehhphaaGreatDoor
open Go.RowKit
set_option maxHeartbeats 1600000
set_option maxRecDepth 100000
set_option linter.unusedVariables false
theorem drawGrammarOk_of (P : List RuleD → Prop) (hA : AnyC P) (W : World) (v : Value) (n : Nat) (w : World) (hn : n ≤ 1000000000000) (hcode : CodeRow W v n) (hb : Below W.heap.size W w) :
  Calls Tryz.prog 5 #[v] w fun e w' => ∃ (G : List RuleD), P G ∧ ∃ (G' : List RuleD), AyOut G G' ∧ ∃ (o : Value), e = .returned (.agg #[o]) ∧ Held (fun k => k < w.heap.size) w' (fun V => RowC 3 RuleE V o G') ∧ Below w.heap.size w w' := by
 have HC : Hid (CodeRow W v n) := hcode
 have HB : Hid (Below W.heap.size W w) := hb
 have HAn : Hid (AnyC P) := hA
 have HA : Hid (Below w.heap.size w (w.alloc (.cells #[.slice none 0 0] 26))) := (Below.refl _ _).alloc (Nat.le_refl _) _
 clear hcode hb hA
 go_enter Tryz.func5, Tryz.ntmps5
 go_wp2_with fail
 refine (new_any W v n _ hn HC.out (HB.out.trans (HA.out.mono HB.out.size))).mono ?_
 rintro e w1 ⟨g, rfl, hc1, hb1, hg⟩
 have H1 : Hid (Cur W v n g w1) := hc1
 have B1 : Hid (Below (w.alloc (.cells #[.slice none 0 0] 26)).heap.size (w.alloc (.cells #[.slice none 0 0] 26)) w1) := hb1
 have hg1 : w.heap.size < g := by simp at hg; omega
 have hs1 : w.heap.size < w1.heap.size := by have := hb1.size; simp at this; omega
 have hgl := hc1.lt
 clear hc1 hb1 hg
 go_wp2_with fail
 refine (HAn.out W v n g _ hn HC.out H1.out).mono ?_
 rintro e w2 ⟨G, G', o, hP, hO, rfl, hh, hw2⟩
 obtain ⟨ao, co, rfl⟩ := RowC.slice hh.here
 have HP : Hid (P G) := hP
 have HO : Hid (AyOut G G') := hO
 have X2 : w2.heap[w.heap.size]? = some (.cells #[.slice none 0 0] 26 (0, 0)) := by
  rw [hw2.2.block _ hs1 (fun e => by have := Option.some.inj e; omega), B1.out.block _ (by simp)]
  exact heap_alloc_new _ _
 have HL : Hid (Held (fun k => k < w.heap.size) (w2.setCell ⟨w.heap.size, 0, none⟩ (.slice ao G'.length co)) (fun V => RowC 3 RuleE V (.slice ao G'.length co) G')) :=
  (hh.fr (FrA.set (A := fun k => k < w1.heap.size) _ hs1)).away (fun k _ hk => by omega)
 have B2 : Hid (Below w.heap.size w (w2.setCell ⟨w.heap.size, 0, none⟩ (.slice ao G'.length co))) :=
  ((HA.out.trans (B1.out.mono (by simp))).trans (went_bel hw2 (Nat.le_of_lt hs1) (Nat.le_of_lt hg1))).setCell (Nat.le_refl _) _
 have HZ : Hid ((w2.setCell ⟨w.heap.size, 0, none⟩ (.slice ao G'.length co)).cell? ⟨w.heap.size, 0, none⟩ = some (.slice ao G'.length co)) := run_cell (j := 0) (setCell_self (j := 0) _ X2) rfl
 have c1 := run_cell (j := 0) X2 rfl
 have f1 := run_frozen (j := 0) X2
 clear hP hO hh hw2 X2
 go_wp2
 have zz := HZ.out
 refine bodyPost_ret (by simp [results, Tryz.results5, go_sem, zz]; try rfl) rfl ?_
 exact ⟨G, HP.out, G', HO.out, _, rfl, HL.out, B2.out⟩
end Go.Proofs.YtpbicppcehhphaaGreatDoor

namespace Go.Proofs.YtpbicppcehhphaaGreatDoor
open Go.RowKit
set_option linter.unusedVariables false
structure FinI (A : Nat → Prop) (ns : List SNodeD) (rs : List SRuleD) (an ar : Option Addr) (cn cr B p : Nat) (W0 w : World) (gv0 qv0 : Value) (qs : Array Value) (m : MkD) (gv qv o : Value) (L : List (List SymD)) (W : World) : Prop where
 mki : MkI A ns rs an ar cn cr B p W0 m gv qv W
 alt : Held (MutA A p gv qv) W (fun V => RowC 1 AltE V o L)
 qb : W.heap[w.heap.size]? = some (.cells qs 123 (0, 0))
 fr : FrA (Mut p gv0 qv0) w W
 lk : ∀ k, k < w.heap.size → Mut p gv qv k → Mut p gv0 qv0 k
theorem alt_cells {A : Nat → Prop} {B : Nat} {v : Value} {xs : List (List SymD)} {w : World} (h : RowH 1 32 AltE A B v xs w) : ∃ cs, w.ownsRow B 32 1 v xs.length cs ∧ cs.length = xs.length * 1 ∧ (∀ u ∈ cs, u.oneCell' = true) ∧ RowO 1 32 (fun _ vs _ => vs.length = 1) B v xs w := by
 obtain ⟨vss, h1, h2, h3, h4⟩ := h
 refine ⟨vss.flatten, h3, h3.1, fun u hu => ?_, ⟨vss, h1, h2, h3, fun i hi hi' => h2 _ (List.getElem_mem _)⟩⟩
 obtain ⟨vs, hvs, hu⟩ := List.mem_flatten.1 hu
 obtain ⟨i, hi, rfl⟩ := List.getElem_of_mem hvs
 obtain ⟨r0, e, hr⟩ := Held.here (h4 i hi (by omega))
 rw [e] at hu
 rw [List.mem_singleton.1 hu]
 obtain ⟨a, c, rfl⟩ := hr.slice
 rfl
theorem alts_all {A : Nat → Prop} {B B' : Nat} {v u : Value} {xs ys : List (List SymD)} {w : World} (h : RowH 1 32 AltE A B v xs w) (h' : RowH 1 32 AltE A B' u ys w) (hvA : ∀ k, v.ownBlock = some k → A k) : ∃ cs ds, w.ownsRow B 32 1 v xs.length cs ∧ w.ownsRow B' 32 1 u ys.length ds ∧ ds.length = ys.length * 1 ∧ (∀ u ∈ ds, u.oneCell' = true) ∧ ∀ (g cap : Nat) (w2 : World) (A' : Nat → Prop), w2.ownsRow B 32 1 (.slice (some ⟨g, 0, none⟩) (xs.length + ys.length) cap) (xs.length + ys.length) (cs ++ ds) → w.grownBy w2 v.ownBlock → (∀ k, k < w.heap.size → A' k → A k) → RowH 1 32 AltE A' B (.slice (some ⟨g, 0, none⟩) (xs.length + ys.length) cap) (xs ++ ys) w2 := by
 obtain ⟨cs, ds, h1, h2, h3⟩ := RowH.addAll h h' hvA
 obtain ⟨es, k1, k2, k3, _⟩ := alt_cells h'
 have e : ds = es := by
  rcases h2.2 with ⟨e1, e2⟩ | ⟨g, cap, cur, e1, hB, hc, r⟩
  ·have l1 := h2.1
   have l2 := k1.1
   rw [e2] at l1 l2
   have e3 : ds = [] := List.length_eq_zero_iff.1 (by simpa using l1)
   have e4 : es = [] := List.length_eq_zero_iff.1 (by simpa using l2)
   rw [e3, e4]
  ·rcases k1.2 with ⟨e3, e4⟩ | ⟨g', cap', cur', e3, hB', hc', r'⟩
   ·rw [e3] at e1
    cases e1
   ·have e5 := e1.symm.trans e3
    cases e5
    rw [hc] at hc'
    cases hc'
    exact r.2.2.2.symm.trans r'.2.2.2
 subst e
 exact ⟨cs, ds, h1, h2, k2, k3, h3⟩
section
variable {A : Nat → Prop} {ns : List SNodeD} {rs : List SRuleD} {an ar : Option Addr} {cn cr B p : Nat} {W0 w : World} {gv0 qv0 : Value} {qs xs : Array Value} {m : MkD} {gv qv av mv kv : Value} {alts more : List (List SymD)} {kn : List ByteArray} {wr wr' : World}
theorem GwI.fin (h : GwI A ns rs an ar cn cr B p W0 w gv0 qv0 qs xs m gv qv av mv kv alts more kn wr) (hA : ∀ k, A k → k < w.heap.size) : FinI A ns rs an ar cn cr B p W0 w gv0 qv0 qs m gv qv av alts wr := by
 obtain ⟨h1, h2⟩ := h.done hA
 exact ⟨h1, h2, h.qb, h.fr, h.lk⟩
theorem GwI.finNew {W : World} {o : Value} {L : List (List SymD)} {b : Nat} (h : GwI A ns rs an ar cn cr B p W0 w gv0 qv0 qs xs m gv qv av mv kv alts more kn wr) (hA : ∀ k, A k → k < w.heap.size) (hBw : B ≤ w.heap.size) (hR : RowH 1 32 AltE (MutA A p gv qv) b o L W) (hb : w.heap.size ≤ b) (hf : FrA (fun k => av.ownBlock = some k) wr W) (hbe : Below w.heap.size w wr → Below B W0 W) (hB2 : Below B W0 W) : FinI A ns rs an ar cn cr B p W0 w gv0 qv0 qs m gv qv o L W := by
 have hM : MkI A ns rs an ar cn cr B p W0 m gv qv W := h.mki.other hf (fun k hk => .inr (.inl hk)) (alt_off h.als h.mki) hB2 (fun k hk a => .inl a)
 refine ⟨hM, RowH.held hR (fun k hk a => ?_), (hf.block _ (Array.getElem?_eq_some_iff.1 h.qb).1 (alt_ne h.als h.qb (by decide))).trans h.qb, h.fr.trans (A' := fun k => av.ownBlock = some k) hf (fun k hk ha => absurd (RowO.lt h.als k ha).1 (by omega)), h.lk⟩
 rcases a with a | a
 ·have := hA k a
  have := (RowO.lt hR k hk).1
  omega
 ·obtain ⟨cur, hc⟩ := RowO.type hR hk
  exact hM.off hc (by decide) (by decide) (by decide) a
theorem GwI.star (h : GwI A ns rs an ar cn cr B p W0 w gv0 qv0 qs xs m gv qv av mv kv alts more kn wr) (hA : ∀ k, A k → k < w.heap.size) (hBw : B ≤ w.heap.size) :
  ∃ cs ds, (wr.alloc (.cells #[.slice none 0 0] 32)).ownsRow wr.heap.size 32 1 (.slice (some ⟨wr.heap.size, 0, none⟩) 1 1) 1 cs ∧ (wr.alloc (.cells #[.slice none 0 0] 32)).ownsRow w.heap.size 32 1 mv more.length ds ∧ ds.length = more.length * 1 ∧ (∀ u ∈ ds, u.oneCell' = true) ∧
   ∀ (g cap : Nat) (w2 : World), w2.ownsRow wr.heap.size 32 1 (.slice (some ⟨g, 0, none⟩) (1 + more.length) cap) (1 + more.length) (cs ++ ds) → (wr.alloc (.cells #[.slice none 0 0] 32)).grownBy w2 (some wr.heap.size) → FinI A ns rs an ar cn cr B p W0 w gv0 qv0 qs m gv qv (.slice (some ⟨g, 0, none⟩) (1 + more.length) cap) ([[]] ++ more) w2 := by
 have bal : Below wr.heap.size wr (wr.alloc (.cells #[.slice none 0 0] 32)) := (Below.refl _ _).alloc (Nat.le_refl _) _
 have hsz := h.fr.size
 have hnew : RowH 1 32 AltE (fun k => MutA (AG A av mv) p gv qv k ∨ wr.heap.size = k) wr.heap.size (.slice (some ⟨wr.heap.size, 0, none⟩) 1 1) [[]] (wr.alloc (.cells #[.slice none 0 0] 32)) := by
  refine ⟨[[.slice none 0 0]], rfl, fun vs hvs => by rw [List.mem_singleton.1 hvs]; rfl, ⟨rfl, .inr ⟨wr.heap.size, 1, #[.slice none 0 0], rfl, Nat.le_refl _, heap_alloc_new wr _, Nat.le_refl _, by unfold maxLen; omega, rfl, rfl⟩⟩, fun i hi hi' => ?_⟩
  obtain rfl : i = 0 := by simpa using hi
  intro V _ _
  exact ⟨.slice none 0 0, rfl, none, 0, rfl, fun _ => rfl, fun h0 => absurd h0 (by simp)⟩
 have hmor : RowH 1 32 AltE (fun k => MutA (AG A av mv) p gv qv k ∨ wr.heap.size = k) w.heap.size mv more (wr.alloc (.cells #[.slice none 0 0] 32)) := RowH.below (RowH.go h.mor (FrA.refl _ _) (fun k hk a => a.elim id (fun e => by omega)) (fun _ _ => rfl)) bal
 obtain ⟨cs, ds, h1, h2, h3, h4, h5⟩ := alts_all hnew hmor (fun k hk => .inr (Option.some.inj hk))
 refine ⟨cs, ds, h1, h2, h3, h4, fun g cap w2 ho hg => ?_⟩
 have hR := h5 g cap w2 (MutA A p gv qv) ho hg (fun k hk a => .inl (a.imp .inl id))
 have B2 : Below wr.heap.size wr w2 := bal.grown hg bal.size (fun k hk => by cases hk; exact Nat.le_refl _)
 exact h.finNew hA hBw hR hsz (FrA.below B2) (fun _ => h.mki.bel.trans (B2.mono h.mki.lt)) (h.mki.bel.trans (B2.mono h.mki.lt))
theorem GwI.plus (h : GwI A ns rs an ar cn cr B p W0 w gv0 qv0 qs xs m gv qv av mv kv alts more kn wr) (hA : ∀ k, A k → k < w.heap.size) (hBw : B ≤ w.heap.size) :
  ∃ cs ds, wr.ownsRow w.heap.size 32 1 av alts.length cs ∧ wr.ownsRow w.heap.size 32 1 mv more.length ds ∧ ds.length = more.length * 1 ∧ (∀ u ∈ ds, u.oneCell' = true) ∧
   ∀ (g cap : Nat) (w2 : World), w2.ownsRow w.heap.size 32 1 (.slice (some ⟨g, 0, none⟩) (alts.length + more.length) cap) (alts.length + more.length) (cs ++ ds) → wr.grownBy w2 av.ownBlock → FinI A ns rs an ar cn cr B p W0 w gv0 qv0 qs m gv qv (.slice (some ⟨g, 0, none⟩) (alts.length + more.length) cap) (alts ++ more) w2 := by
 obtain ⟨cs, ds, h1, h2, h3, h4, h5⟩ := alts_all h.als h.mor (fun k hk => .inl (.inr (.inl hk)))
 refine ⟨cs, ds, h1, h2, h3, h4, fun g cap w2 ho hg => ?_⟩
 have hR := h5 g cap w2 (MutA A p gv qv) ho hg (fun k hk a => a.imp .inl id)
 have hf : FrA (fun k => av.ownBlock = some k) wr w2 := FrA.grown hg (fun k hk => hk)
 have hB2 : Below B W0 w2 := h.mki.bel.grown hg h.mki.lt (fun k hk => Nat.le_trans hBw (RowO.lt h.als k hk).1)
 exact h.finNew hA hBw hR (Nat.le_refl _) hf (fun _ => hB2) hB2
end
end Go.Proofs.YtpbicppcehhphaaGreatDoor

namespace Go.Proofs.YtpbicppcehhphaaGreatDoor
open Go.RowKit
def figI (x : Int) : Int := if x < 10 then 48 + x else 87 + x
theorem fig_any (x : Int) (w : World) (h0 : 0 ≤ x) (h1 : x < 16) :
  Calls Tryz.prog 100 #[.int .i64 x] w fun e w' => e = .returned (.int .u8 (figI x)) ∧ w' = w := by
 by_cases h : x < 10
 ·have HF : Hid (figI x = 48 + x) := by simp [Hid, figI, h]
  go_enter Tryz.func100, Tryz.ntmps100
  go_wp2
  go_ret
  rw [HF.out]
  exact ⟨rfl, rfl⟩
 ·have HF : Hid (figI x = 97 + x - 10) := by simp only [Hid, figI, if_neg h]; omega
  go_enter Tryz.func100, Tryz.ntmps100
  go_wp2
  go_ret
  rw [HF.out]
  exact ⟨rfl, rfl⟩
end Go.Proofs.YtpbicppcehhphaaGreatDoor

namespace Go.Proofs.YtpbicppcehhphaaGreatDoor
open Go.RowKit
set_option maxHeartbeats 800000
def DecRel (n0 : Int) (base : Nat) (w : World) (nv sv : Value) (wr : World) : Prop :=
 ∃ (m : Int) (t : List UInt8), nv = .int .i64 m ∧ sv = .string (str t) ∧ digs m.natAbs ++ t = digs n0.natAbs ∧ -9223372036854775808 ≤ m ∧ m ≤ 9223372036854775807 ∧ Below base w wr ∧ base ≤ wr.heap.size
theorem decRel_step {n0 m m' x : Int} {base : Nat} {w wr : World} {t : List UInt8} (hm : m ≠ 0) (hx : x = (m.natAbs % 10 : Nat)) (hm' : m'.natAbs = m.natAbs / 10)
  (hd : digs m.natAbs ++ t = digs n0.natAbs) (b1 : -9223372036854775808 ≤ m') (b2 : m' ≤ 9223372036854775807) (hbel : Below base w wr) (hsz : base ≤ wr.heap.size) (o : Obj) :
  DecRel n0 base w (.int .i64 m') (.string (str ([byteI (figI x)] ++ t))) (wr.alloc o) := by
 refine ⟨m', _, rfl, rfl, ?_, b1, b2, hbel.alloc hsz o, by simp; omega⟩
 rw [hm', ← hd, digs_step m.natAbs (by omega)]
 have : (figI x).toNat = 48 + m.natAbs % 10 := by
  unfold figI
  rw [if_pos (by omega)]
  omega
 rw [byteI, this]
 simp
theorem digs_room {n0 m : Int} {t : List UInt8} (hm : m ≠ 0) (hd : digs m.natAbs ++ t = digs n0.natAbs) (b1 : -9223372036854775808 ≤ n0) (b2 : n0 ≤ 9223372036854775807) : t.length + 1 ≤ 922337203685477581 := by
 have h1 := digs_len n0.natAbs
 have h2 := congrArg List.length hd
 rw [List.length_append, digs_step m.natAbs (by omega), List.length_append, List.length_singleton] at h2
 omega
theorem specDec_pos (n : Int) (w : World) (h0 : -9223372036854775808 ≤ n) (h1 : n ≤ 9223372036854775807) (hn : n ≠ 0) :
  Calls Tryz.prog 87 #[.int .i64 n] w fun e w' => e = .returned (.string (str (Lib.itoa n))) ∧ Below w.heap.size w w' := by
 have hne : (n == 0) = false := by simpa using hn
 go_enter Tryz.func87, Tryz.ntmps87
 go_wp2
 go_loopw [0, 4] (fun nv sv wr => DecRel n w.heap.size w nv sv wr) (fun nv _ _ => (intOf nv).natAbs)
 case atStart => exact ⟨n, [], rfl, rfl, by simp, h0, h1, Below.refl _ _, Nat.le_refl _⟩
 case round =>
  obtain ⟨m, t, rfl, rfl, hd, b1, b2, hbel, hsz⟩ := hrel
  by_cases hm : m = 0
  ·subst hm
   have HD : Hid (t = digs n.natAbs) := by simpa [Hid, digs] using hd
   clear hd
   have hl := digs_len n.natAbs
   by_cases hneg : n < 0
   ·have hz : (str t).size ≤ 922337203685477582 := by rw [str_size, HD.out]; omega
    clear hl
    have HE : Hid (Lib.itoa n = [45] ++ t) := by rw [HD.out]; exact itoa_digs_neg n hneg
    go_wp2
    go_ret
    rw [HE.out, ← str_add]
    exact ⟨rfl, hbel⟩
   ·have HE : Hid (Lib.itoa n = t) := by rw [HD.out]; exact itoa_digs_pos n (by omega)
    clear hl
    go_wp2
    go_ret
    rw [HE.out]
    exact ⟨rfl, hbel⟩
  ·have hroom := digs_room hm hd h0 h1
   have HD : Hid (digs m.natAbs ++ t = digs n.natAbs) := hd
   clear hd
   have hmne : (m != 0) = true := by simpa using hm
   by_cases hneg : m < 0
   ·have q1 : m.tdiv 10 = -((m.natAbs / 10 : Nat) : Int) := by
     rw [show m = -(m.natAbs : Int) by omega, Int.neg_tdiv, Int.tdiv_eq_ediv_of_nonneg (by omega)]; omega
    have q2 : m.tmod 10 = -((m.natAbs % 10 : Nat) : Int) := by
     rw [show m = -(m.natAbs : Int) by omega, Int.neg_tmod, Int.tmod_eq_emod_of_nonneg (by omega)]; omega
    have hz : (str t).size ≤ 922337203685477580 := by rw [str_size]; omega
    have q5 : -10 < m.tmod 10 := by omega
    have q6 : m.tmod 10 ≤ 0 := by omega
    have q8 : -9223372036854775808 ≤ m.tdiv 10 := by omega
    have q9 : m.tdiv 10 ≤ 0 := by omega
    have Q1 : Hid (m.tdiv 10 = -((m.natAbs / 10 : Nat) : Int)) := q1
    have Q2 : Hid (m.tmod 10 = -((m.natAbs % 10 : Nat) : Int)) := q2
    clear q1 q2
    by_cases hy : m.tmod 10 < 0
    ·have hcv := fun W => run_one_string (P := Tryz.prog) W 22 9 5 (figI (-(m.tmod 10))) (by unfold figI; split <;> omega) (by unfold figI; split <;> omega) Tryz.underlying22 Tryz.underlying5 Tryz.underlying9
     have hadd := fun W => run_add_str (P := Tryz.prog) W [byteI (figI (-(m.tmod 10)))] t (by simp; omega)
     have R := decRel_step (m' := m.tdiv 10) (x := -(m.tmod 10)) hm (by have h9 := Q2.out; omega) (by rw [Q1.out]; omega) HD.out (by omega) (by omega) hbel hsz (.cells #[.int .u8 (figI (-(m.tmod 10)))] 5)
     go_wp2_with (go_at_call 100; refine (fig_any _ _ (by omega) (by omega)).mono ?_; rintro e wq ⟨rfl, hw⟩; rw [hw]; clear hw)
     go_roundw
     case rel => exact R
     case measure => simp [intOf]; show m.natAbs / 10 < m.natAbs; omega
    ·have hcv := fun W => run_one_string (P := Tryz.prog) W 22 9 5 (figI (m.tmod 10)) (by unfold figI; split <;> omega) (by unfold figI; split <;> omega) Tryz.underlying22 Tryz.underlying5 Tryz.underlying9
     have hadd := fun W => run_add_str (P := Tryz.prog) W [byteI (figI (m.tmod 10))] t (by simp; omega)
     have R := decRel_step (m' := m.tdiv 10) (x := m.tmod 10) hm (by have h9 := Q2.out; omega) (by rw [Q1.out]; omega) HD.out (by omega) (by omega) hbel hsz (.cells #[.int .u8 (figI (m.tmod 10))] 5)
     go_wp2_with (go_at_call 100; refine (fig_any _ _ (by omega) (by omega)).mono ?_; rintro e wq ⟨rfl, hw⟩; rw [hw]; clear hw)
     go_roundw
     case rel => exact R
     case measure => simp [intOf]; show m.natAbs / 10 < m.natAbs; omega
   ·have hpos : 0 < m := by omega
    have hz : (str t).size ≤ 922337203685477580 := by rw [str_size]; omega
    have hcv := fun W => run_one_string (P := Tryz.prog) W 22 9 5 (figI (m % 10)) (by unfold figI; split <;> omega) (by unfold figI; split <;> omega) Tryz.underlying22 Tryz.underlying5 Tryz.underlying9
    have hadd := fun W => run_add_str (P := Tryz.prog) W [byteI (figI (m % 10))] t (by simp; omega)
    have R := decRel_step (m' := m / 10) (x := m % 10) hm (by omega) (by omega) HD.out (by omega) (by omega) hbel hsz (.cells #[.int .u8 (figI (m % 10))] 5)
    go_wp2_with (go_at_call 100; refine (fig_any _ _ (by omega) (by omega)).mono ?_; rintro e wq ⟨rfl, hw⟩; rw [hw]; clear hw)
    go_roundw
    case rel => exact R
    case measure => simp [intOf]; omega
theorem specDec_any (n : Int) (w : World) (h0 : -9223372036854775808 ≤ n) (h1 : n ≤ 9223372036854775807) :
  Calls Tryz.prog 87 #[.int .i64 n] w fun e w' => e = .returned (.string (str (Lib.itoa n))) ∧ Below w.heap.size w w' := by
 by_cases hn : n = 0
 ·subst hn
  rw [itoa_zero]
  go_enter Tryz.func87, Tryz.ntmps87
  go_wp2
  go_ret
  exact ⟨rfl, Below.refl _ _⟩
 ·exact specDec_pos n w h0 h1 hn
end Go.Proofs.YtpbicppcehhphaaGreatDoor
