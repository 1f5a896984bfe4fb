/- DrawCallsOf, out of a contract on l06Any; the law's own grammar, read out of its text. -/
/- DrawPair, out of contracts on ReadSurface and Flatten. -/
import Derived.Test.YtllfmobjkppnaaaGreatDrQ
import Derived.BigQuiet
namespace Go.Proofs.YtllfmobjkppnaaaGreat
open Go.RowKit
set_option linter.unusedVariables false

set_option maxHeartbeats 800000 in
theorem sameT15 (u v : Value) (ss : List ByteArray) (w : World) (hn : ss.length ≤ 1048576) (h : SRow w u ss) (h' : SRow w v ss) :
    Calls Tryz.prog 8 #[u, v] w fun e w' => e = .returned (.bool true) ∧ Below w.heap.size w w' := by
  have HU : Hid (SRow w u ss) := h
  have HV : Hid (SRow w v ss) := h'
  obtain ⟨a, cap, rfl⟩ := h.slice
  obtain ⟨b, cap', rfl⟩ := h'.slice
  clear h h'
  go_enter Tryz.func8, Tryz.ntmps8
  go_wp2
  go_loopw [5] (fun iv wr => ∃ k q : Nat, iv = .int .i64 k ∧ k ≤ ss.length ∧ wr = w.drewN q) (fun iv _ => ss.length - (intOf iv).toNat)
  case atStart => exact ⟨0, 0, rfl, Nat.zero_le _, rfl⟩
  case round =>
    obtain ⟨k, q, rfl, hk, hwr⟩ := hrel
    have HW : Hid (wr = w.drewN q) := hwr
    have B1 : Hid (Below w.heap.size w wr) := by rw [Hid, hwr]; exact bel_drewN (Below.refl _ _) q
    clear hwr
    by_cases hlt : k < ss.length
    · obtain ⟨ba, oa, rfl, ca⟩ := (HU.out.below B1.out).at hlt
      obtain ⟨bb, ob, rfl, cb⟩ := (HV.out.below B1.out).at hlt
      have i4 : (k : Int) < (ss.length : Int) := by omega
      have ht : (ss[k].toList == ss[k].toList) = true := by simp
      go_wp2
      go_quiet (fail)
      go_wp2
      go_roundw
      case rel => exact ⟨k + 1, q + nq, by go_num, by omega, by rw [HW.out, World.drewN_drewN]⟩
      case measure => simp [intOf]; omega
    · obtain rfl : k = ss.length := by omega
      go_wp2
      go_ret
      exact ⟨rfl, B1.out⟩

theorem five_ints (w : World) (m : Int) (hm : -9223372036854775808 ≤ m ∧ m + 1 ≤ 9223372036854775807) : ∀ i, i < 5 → ∃ y : Int, (w.alloc (.cells #[.int .i64 (-1), .int .i64 m, .int .i64 (m + 1), .int .i64 9223372036854775807, .int .i64 (-9223372036854775808)] 3)).cell? ⟨w.heap.size, i, none⟩ = some (.int .i64 y) ∧ -9223372036854775808 ≤ y ∧ y ≤ 9223372036854775807 := by
  intro i hi
  match i, hi with
  | 0, _ => exact ⟨-1, by simp, by omega, by omega⟩
  | 1, _ => exact ⟨m, by simp, by omega, by omega⟩
  | 2, _ => exact ⟨m + 1, by simp, by omega, by omega⟩
  | 3, _ => exact ⟨9223372036854775807, by simp, by omega, by omega⟩
  | 4, _ => exact ⟨-9223372036854775808, by simp, by omega, by omega⟩

set_option maxHeartbeats 1600000 in
set_option maxRecDepth 100000 in
theorem place_any (W : World) (v : Value) (n g : Nat) (w : World) (hn : n ≤ 1000000000000) (hcode : CodeRow W v n) (hc : Cur W v n g w) :
    Calls Tryz.prog 20 #[.pointer (some ⟨g, 0, none⟩), .int .i64 3] w fun e w' => ∃ y : Int, e = .returned (.int .i64 y) ∧ Went W v n g w w' := by
  have HC : Hid (CodeRow W v n) := hcode
  have HW : Hid (Cur W v n g w) := hc
  clear hcode hc
  go_enter Tryz.func20, Tryz.ntmps20
  go_wp2_with fail
  refine (once_any W v n g 15 _ hn HC.out HW.out (by omega) (by omega)).mono ?_
  rintro e w1 ⟨b, rfl, hw1⟩
  have H1 : Hid (Went W v n g w w1) := hw1
  clear hw1
  cases b with
  | true =>
    have wp1 : IntKind.i64.wrap ((3 : Int) + 1) = 4 := by decide
    go_wp2_with fail
    refine (pickInt_any W v n g 5 w1.heap.size 5 _ hn HC.out (went_alloc H1.out.1 _).1 (by omega) (by omega) (by have := H1.out.1.lt; omega) (five_ints w1 3 (by omega))).mono ?_
    rintro e w2 ⟨y, rfl, hy, hw2⟩
    have H2 : Hid (Went W v n g w w2) := went_trans (went_trans H1.out (went_alloc H1.out.1 _)) hw2
    clear hw2 hy
    go_wp2
    go_ret
    exact ⟨_, rfl, H2.out⟩
  | false =>
    go_wp2_with fail
    refine (below_any W v n g 3 _ hn HC.out H1.out.1 (by omega) (by omega)).mono ?_
    rintro e w2 ⟨y, rfl, hy, hw2⟩
    have H2 : Hid (Went W v n g w w2) := went_trans H1.out hw2
    clear hw2 hy
    go_wp2
    go_ret
    exact ⟨_, rfl, H2.out⟩

set_option maxHeartbeats 1600000 in
set_option maxRecDepth 100000 in
theorem drawCallsOf_of (P : List RuleD → Prop) (hA : AnyC P) (W : World) (v : Value) (n : Nat) (w : World) (hn : n ≤ 1000000000000) (hcode : CodeRow W v n) (hb : Below W.heap.size W w) :
    Calls Tryz.prog 10 #[v] w fun e w' => ∃ (G : List RuleD), P G ∧ ∃ (G' : List RuleD), AyOut G G' ∧ ∃ (o : Value) (t : Int), e = .returned (.tuple #[.agg #[o], .int .i64 t]) ∧ Held (fun k => k < w.heap.size) w' (fun V => RowC 3 RuleE V o G') ∧ Below w.heap.size w w' := by
  have HC : Hid (CodeRow W v n) := hcode
  have HB : Hid (Below W.heap.size W w) := hb
  have HAn : Hid (AnyC P) := hA
  have HA : Hid (Below w.heap.size w (w.alloc (.cells #[.slice none 0 0] 26))) := (Below.refl _ _).alloc (Nat.le_refl _) _
  clear hcode hb hA
  go_enter Tryz.func10, Tryz.ntmps10
  go_wp2_with fail
  refine (new_any W v n _ hn HC.out (HB.out.trans (HA.out.mono HB.out.size))).mono ?_
  rintro e w1 ⟨g, rfl, hc1, hb1, hg⟩
  have H1 : Hid (Cur W v n g w1) := hc1
  have B1 : Hid (Below (w.alloc (.cells #[.slice none 0 0] 26)).heap.size (w.alloc (.cells #[.slice none 0 0] 26)) w1) := hb1
  have hg1 : w.heap.size < g := by simp at hg; omega
  have hs1 : w.heap.size < w1.heap.size := by have := hb1.size; simp at this; omega
  have hgl := hc1.lt
  clear hc1 hb1 hg
  go_wp2_with fail
  refine (place_any W v n g _ hn HC.out H1.out).mono ?_
  rintro e w3 ⟨t, rfl, hw3⟩
  have W3 : Hid (Went W v n g w1 w3) := hw3
  have hs3 : w1.heap.size ≤ w3.heap.size := W3.out.2.size
  clear hw3
  go_wp2_with fail
  refine (HAn.out W v n g _ hn HC.out W3.out.1).mono ?_
  rintro e w2 ⟨G, G', o, hP, hO, rfl, hh, hw2⟩
  obtain ⟨ao, co, rfl⟩ := RowC.slice hh.here
  have HP : Hid (P G) := hP
  have HO : Hid (AyOut G G') := hO
  have W2 : Went W v n g w1 w2 := went_trans W3.out hw2
  have X2 : w2.heap[w.heap.size]? = some (.cells #[.slice none 0 0] 26 (0, 0)) := by
    rw [W2.2.block _ hs1 (fun e => by have := Option.some.inj e; omega), B1.out.block _ (by simp)]
    exact heap_alloc_new _ _
  have HL : Hid (Held (fun k => k < w.heap.size) (w2.setCell ⟨w.heap.size, 0, none⟩ (.slice ao G'.length co)) (fun V => RowC 3 RuleE V (.slice ao G'.length co) G')) :=
    (hh.fr (FrA.set (A := fun k => k < w3.heap.size) _ (by omega))).away (fun k _ hk => by omega)
  have B2 : Hid (Below w.heap.size w (w2.setCell ⟨w.heap.size, 0, none⟩ (.slice ao G'.length co))) :=
    ((HA.out.trans (B1.out.mono (by simp))).trans (went_bel W2 (Nat.le_of_lt hs1) (Nat.le_of_lt hg1))).setCell (Nat.le_refl _) _
  have HZ : Hid ((w2.setCell ⟨w.heap.size, 0, none⟩ (.slice ao G'.length co)).cell? ⟨w.heap.size, 0, none⟩ = some (.slice ao G'.length co)) := run_cell (j := 0) (setCell_self (j := 0) _ X2) rfl
  have c1 := run_cell (j := 0) X2 rfl
  have f1 := run_frozen (j := 0) X2
  clear hP hO hh hw2 X2 W2
  go_wp2
  have zz := HZ.out
  refine bodyPost_ret (by simp [results, Tryz.results10, go_sem, zz]; try rfl) rfl ?_
  exact ⟨G, HP.out, G', HO.out, _, _, rfl, HL.out, B2.out⟩

set_option maxHeartbeats 1600000 in
set_option maxRecDepth 100000 in
theorem plain0_any (G : List RuleD) (hC : GrC txt0 G) (w : World) :
    Calls Tryz.prog 11 #[.string ⟨#[83, 32, 45, 62, 32, 66, 32, 65, 32, 66, 32, 59, 32, 65, 32, 45, 62, 32, 59, 32, 66, 32, 45, 62, 32, 83, 32, 59]⟩] w fun e w' => ∃ o, e = .returned (.agg #[o]) ∧ RowC 3 RuleE w' o G ∧ Below w.heap.size w w' := by
  obtain ⟨ns, rs, hR, hF⟩ := hC
  have HR : Hid (∀ W : World, Calls Tryz.prog 22 #[.string ⟨#[83, 32, 45, 62, 32, 66, 32, 65, 32, 66, 32, 59, 32, 65, 32, 45, 62, 32, 59, 32, 66, 32, 45, 62, 32, 83, 32, 59]⟩] W fun e w' => ∃ (nv rv : Value) (b : Bool), e = .returned (.tuple #[.agg #[nv, rv], .bool b]) ∧ Fresh W.heap.size w' (fun V => SNs V nv ns ∧ SRs V rv rs) ∧ Below W.heap.size W w') := hR
  have HF : Hid (∀ (A : Nat → Prop) (W : World) (nv rv : Value), (∀ k, A k → k < W.heap.size) → Held A W (fun V => SNs V nv ns ∧ SRs V rv rs) → Calls Tryz.prog 23 #[.agg #[nv, rv]] W fun e w' => ∃ (o : Value) (b : Bool), e = .returned (.tuple #[.agg #[o], .bool b]) ∧ Held A w' (fun V => RowC 3 RuleE V o G) ∧ Below W.heap.size W w') := hF
  have BA : Hid (Below w.heap.size w (w.alloc (.cells #[.slice none 0 0] 26))) := (Below.refl _ _).alloc (Nat.le_refl _) _
  have P0 : Hid ((w.alloc (.cells #[.slice none 0 0] 26)).heap[w.heap.size]? = some (.cells #[.slice none 0 0] 26 (0, 0))) := heap_alloc_new _ _
  have HS : Hid ((w.alloc (.cells #[.slice none 0 0] 26)).heap.size = w.heap.size + 1) := by rw [Hid]; simp
  clear hR hF
  go_enter Tryz.func11, Tryz.ntmps11
  go_wp2_with fail
  generalize w.alloc (.cells #[.slice none 0 0] 26) = w1 at *
  refine (HR.out _).mono ?_
  rintro e w2 ⟨nv, rv, b, rfl, hfr, hb2⟩
  have F2 : Hid (Fresh w1.heap.size w2 (fun V => SNs V nv ns ∧ SRs V rv rs)) := hfr
  have B2 : Hid (Below w1.heap.size w1 w2) := hb2
  obtain ⟨⟨an, cn, rfl⟩, ⟨ar, cr, rfl⟩⟩ : (∃ an cn, nv = .slice an ns.length cn) ∧ ∃ ar cr, rv = .slice ar rs.length cr := ⟨RowC.slice (hfr w2 (Nat.le_refl _) (fun _ _ _ => rfl)).1, RowC.slice (hfr w2 (Nat.le_refl _) (fun _ _ _ => rfl)).2⟩
  clear hfr hb2
  go_wp2_with fail
  have ba : Below w2.heap.size w2 (w2.alloc (Obj.cells #[Value.slice an ns.length cn, Value.slice ar rs.length cr] 59)) := (Below.refl _ _).alloc (Nat.le_refl _) _
  refine (HF.out (fun k => k < w1.heap.size) _ _ _ (fun k hk => Nat.lt_of_lt_of_le hk (Nat.le_trans B2.out.size ba.size)) (Held.of_fresh (Fresh.step F2.out ba.size (fun k _ hk => ba.block k hk)) (fun k hk => hk))).mono ?_
  rintro e w3 ⟨o, b', rfl, hh, hb3⟩
  obtain ⟨ao, co, rfl⟩ := RowC.slice hh.here
  have B3 : Hid (Below w1.heap.size w1 w3) := B2.out.trans ((ba.mono B2.out.size).trans (hb3.mono (Nat.le_trans B2.out.size ba.size)))
  have H3 : Hid (Held (fun k => k < w1.heap.size) w3 (fun V => RowC 3 RuleE V (.slice ao G.length co) G)) := hh
  have hlt3 : w.heap.size < w3.heap.size := by have := B3.out.size; have := HS.out; omega
  have X3 : w3.heap[w.heap.size]? = some (.cells #[.slice none 0 0] 26 (0, 0)) := (B3.out.block _ (by rw [HS.out]; omega)).trans P0.out
  have c0 := run_cell (j := 0) X3 rfl
  have f0 := run_frozen (j := 0) X3
  have hn3 : ¬ w.heap.size = w3.heap.size := by omega
  have hn4 : ¬ w3.heap.size = w.heap.size := by omega
  have ca : (w3.alloc (Obj.cells #[Value.slice ao G.length co] 26)).cell? ⟨w.heap.size, 0, none⟩ = some (.slice none 0 0) := run_cell (j := 0) (((Below.refl w3.heap.size w3).alloc (Nat.le_refl _) _).block _ hlt3 |>.trans X3) rfl
  have fa : (w3.alloc (Obj.cells #[Value.slice ao G.length co] 26)).frozen? ⟨w.heap.size, 0, none⟩ = false := run_frozen (((Below.refl w3.heap.size w3).alloc (Nat.le_refl _) _).block _ hlt3 |>.trans X3)
  obtain ⟨w5, hw5⟩ : ∃ X, X = (w3.setCell ⟨w.heap.size, 0, none⟩ (Value.slice ao G.length co)).alloc (Obj.cells #[Value.slice ao G.length co] 26) := ⟨_, rfl⟩
  have s4 : (w3.setCell ⟨w.heap.size, 0, none⟩ (Value.slice ao G.length co)).heap.size = w3.heap.size := by simp [World.setCell]
  have b5 : Below (w3.setCell ⟨w.heap.size, 0, none⟩ (Value.slice ao G.length co)).heap.size (w3.setCell ⟨w.heap.size, 0, none⟩ (Value.slice ao G.length co)) w5 := by rw [hw5]; exact (Below.refl _ _).alloc (Nat.le_refl _) _
  have Z : w5.heap[w.heap.size]? = some (.cells #[.slice ao G.length co] 26 (0, 0)) := by
    rw [b5.block _ (by rw [s4]; exact hlt3)]
    exact (setCell_self (j := 0) _ X3).trans rfl
  have Z1 : Hid (w5.cell? ⟨w.heap.size, 0, none⟩ = some (.slice ao G.length co)) := run_cell (j := 0) Z rfl
  have hld : Hid (RowC 3 RuleE w5 (.slice ao G.length co) G) := ((H3.out.fr (FrA.set (A := fun k => k < w1.heap.size) _ (by rw [HS.out]; omega))).fr (FrA.below b5)).here
  have hB5 : Hid (Below w.heap.size w w5) := ((BA.out.trans (B3.out.mono BA.out.size)).setCell (Nat.le_refl _) _).trans (b5.mono (by rw [s4]; omega))
  clear hh hb3 ba X3 Z b5 s4 c0 f0
  go_wp2
  have zz := Z1.out
  rw [← hw5]
  refine bodyPost_ret (by simp [results, Tryz.results11, go_sem, zz]; try rfl) rfl ?_
  exact ⟨_, rfl, hld.out, hB5.out⟩

end Go.Proofs.YtllfmobjkppnaaaGreat

namespace Go.Proofs.YtllfmobjkppnaaaGreat
open Go.RowKit
set_option linter.unusedVariables false

set_option maxHeartbeats 1600000 in
set_option maxRecDepth 100000 in
theorem drawPair_of (P : List RuleD → Prop) (hG : ∀ s ∈ texts11, ∃ g, P g ∧ GrC (cut11 s).1 g) (W : World) (v : Value) (n : Nat) (w : World) (hn : n ≤ 1000000000000) (hcode : CodeRow W v n) (hb : Below W.heap.size W w) :
    Calls Tryz.prog 5 #[v] w fun e w' => ∃ (G : List RuleD) (o : Value) (t : ByteArray), P G ∧ e = .returned (.tuple #[.agg #[o], .string t]) ∧ t.size ≤ 8 ∧ Held (fun k => k < w.heap.size) w' (fun V => RowC 3 RuleE V o G) ∧ Below w.heap.size w w' := by
  have HC : Hid (CodeRow W v n) := hcode
  have HB : Hid (Below W.heap.size W w) := hb
  have HG : Hid (∀ s ∈ texts11, ∃ g, P g ∧ GrC (cut11 s).1 g) := hG
  have ba : Below w.heap.size w (w.alloc (.cells #[.slice none 0 0] 26)) := (Below.refl _ _).alloc (Nat.le_refl _) _
  have HA : Hid (Below w.heap.size w (w.alloc (.cells #[.slice none 0 0] 26))) := ba
  clear hcode hb hG ba
  go_enter Tryz.func5, Tryz.ntmps5
  go_wp2_with fail
  refine (new_any W v n _ hn HC.out (HB.out.trans (HA.out.mono HB.out.size))).mono ?_
  rintro e w1 ⟨g, rfl, hc1, hb1, hg⟩
  have H1 : Hid (Cur W v n g w1) := hc1
  have B1 : Hid (Below (w.alloc (.cells #[.slice none 0 0] 26)).heap.size (w.alloc (.cells #[.slice none 0 0] 26)) w1) := hb1
  have hg1 : w.heap.size < g := by simp at hg; omega
  have hs1 : w.heap.size < w1.heap.size := by have := hb1.size; simp at this; omega
  have hgl := hc1.lt
  clear hc1 hb1 hg
  go_wp2_with fail
  refine (pair11_of P HG.out W v n g _ hn HC.out H1.out).mono ?_
  rintro e w2 ⟨G, o, t, hP, rfl, ht, hh, hw2⟩
  obtain ⟨ao, co, rfl⟩ := RowC.slice hh.here
  have HP : Hid (P G) := hP
  have X2 : w2.heap[w.heap.size]? = some (.cells #[.slice none 0 0] 26 (0, 0)) := by
    rw [hw2.2.block _ hs1 (fun e => by have := Option.some.inj e; omega), B1.out.block _ (by simp)]
    exact heap_alloc_new _ _
  have HL : Hid (Held (fun k => k < w.heap.size) (w2.setCell ⟨w.heap.size, 0, none⟩ (.slice ao G.length co)) (fun V => RowC 3 RuleE V (.slice ao G.length co) G)) :=
    (hh.fr (FrA.set (A := fun k => k < w1.heap.size) _ hs1)).away (fun k _ hk => Nat.lt_trans hk hs1)
  have B2 : Hid (Below w.heap.size w (w2.setCell ⟨w.heap.size, 0, none⟩ (.slice ao G.length co))) :=
    ((HA.out.trans (B1.out.mono (by simp))).trans (went_bel hw2 (Nat.le_of_lt hs1) (Nat.le_of_lt hg1))).setCell (Nat.le_refl _) _
  have HZ : Hid ((w2.setCell ⟨w.heap.size, 0, none⟩ (.slice ao G.length co)).cell? ⟨w.heap.size, 0, none⟩ = some (.slice ao G.length co)) := run_cell (j := 0) (setCell_self (j := 0) _ X2) rfl
  have c1 := run_cell (j := 0) X2 rfl
  have f1 := run_frozen (j := 0) X2
  clear hP hh hw2 X2
  go_wp2
  have zz := HZ.out
  refine bodyPost_ret (by simp [results, Tryz.results5, go_sem, zz]; try rfl) rfl ?_
  exact ⟨G, _, _, HP.out, rfl, ht, HL.out, B2.out⟩

end Go.Proofs.YtllfmobjkppnaaaGreat
