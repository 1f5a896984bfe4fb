/- The exact law on GrammarOk, walked. -/
import Derived.Test.YtjjdeiclfbcicaaGreatDoorGData
import Derived.OpenShut
import Derived.Test.YtjjdeiclfbcicaaGreatDoorICk6
import Derived.Defers
import Derived.Recover
import Derived.Test.YtjjdeiclfbcicaaGreatDoorGLaw
namespace Go.Proofs.YtjjdeiclfbcicaaGreatDoor
open Go.RowKit

theorem openExpr_gen {H : Type} {enc : TypeId × Value → H} {P : Program} {w : World} {base : Nat} {held : Bool} {e : TypeId} {f0 : Field} (he : P.underlying e = some (.struct #[f0])) (o0 : f0.offset = 0) (c0 : P.cellsOf f0.type = 1) (u0 : ∀ (n : Nat) (v : Value) (y : DataW H × List MemPlace), DataW.trod enc P w base (fun _ => true) held n f0.type [v] = some y → ∃ x, NRow w v x ∧ RowInn NodeIn x)
    {n : Nat} {cs : List Value} {y : DataW H × List MemPlace} (hl : cs.length = 1) (h : DataW.trod enc P w base (fun _ => true) held n e cs = some y) : ∃ x, ExprE w cs x ∧ ExprIn x := by
  obtain ⟨xs, k, hk, hxy, _, hxl, hf⟩ := DataW.trod_struct he h
  match xs, hxl, cs, hl with
  | [y0], _, [v0], _ =>
    have g0 := hf 0 f0 rfl
    simp [o0, c0] at g0
    obtain ⟨x0, hx0, hi0⟩ := u0 _ _ _ g0
    exact ⟨x0, ⟨v0, rfl, hx0⟩, hi0⟩
theorem openExpr {H : Type} {enc : TypeId × Value → H} {w : World} {base : Nat} {held : Bool} {n : Nat} {cs : List Value} {y : DataW H × List MemPlace} (hl : cs.length = 1) (h : DataW.trod enc Tryz.prog w base (fun _ => true) held n 146 cs = some y) : ∃ x, ExprE w cs x ∧ ExprIn x :=
  openExpr_gen Tryz.underlying146 rfl (by kernel_rfl) (fun _ _ _ h => (nArg_of_trod Tryz.underlying144 Tryz.underlying207 (by kernel_rfl) rfl rfl rfl rfl (by kernel_rfl) (by kernel_rfl) (by kernel_rfl) (by kernel_rfl) (by kernel_rfl) (by kernel_rfl) (by kernel_rfl) (by kernel_rfl) Tryz.underlying3 (by kernel_rfl) h).imp fun _ h => ⟨h.1, h.2⟩) hl h

theorem openSym_gen {H : Type} {enc : TypeId × Value → H} {P : Program} {w : World} {base : Nat} {held : Bool} {e : TypeId} {f0 f1 f2 f3 : Field} (he : P.underlying e = some (.struct #[f0, f1, f2, f3])) (o0 : f0.offset = 0) (o1 : f1.offset = 1) (o2 : f2.offset = 2) (o3 : f3.offset = 3) (c0 : P.cellsOf f0.type = 1) (c1 : P.cellsOf f1.type = 1) (c2 : P.cellsOf f2.type = 1) (c3 : P.cellsOf f3.type = 1) (u0 : P.underlying f0.type = some (.int .i64)) (u1 : P.underlying f1.type = some .string) (u2 : ∀ (n : Nat) (v : Value) (y : DataW H × List MemPlace), DataW.trod enc P w base (fun _ => true) held n f2.type [v] = some y → ∃ x, RowC 1 ExprE w v x ∧ RowInn ExprIn x) (u3 : P.underlying f3.type = some .string)
    {n : Nat} {cs : List Value} {y : DataW H × List MemPlace} (hl : cs.length = 4) (h : DataW.trod enc P w base (fun _ => true) held n e cs = some y) : ∃ x, SymE w cs x ∧ SymIn x := by
  obtain ⟨xs, k, hk, hxy, _, hxl, hf⟩ := DataW.trod_struct he h
  match xs, hxl, cs, hl with
  | [y0, y1, y2, y3], _, [v0, v1, v2, v3], _ =>
    have g0 := hf 0 f0 rfl
    have g1 := hf 1 f1 rfl
    have g2 := hf 2 f2 rfl
    have g3 := hf 3 f3 rfl
    simp [o0, o1, o2, o3, c0, c1, c2, c3] at g0 g1 g2 g3
    obtain ⟨z0, e0, _, hz0⟩ := DataW.trod_int u0 g0
    obtain rfl : v0 = .int .i64 z0 := by simpa using e0
    obtain ⟨s1, e1, _, hs1⟩ := DataW.trod_string u1 g1
    obtain rfl : v1 = .string s1 := by simpa using e1
    obtain ⟨x2, hx2, hi2⟩ := u2 _ _ _ g2
    obtain ⟨s3, e3, _, hs3⟩ := DataW.trod_string u3 g3
    obtain rfl : v3 = .string s3 := by simpa using e3
    exact ⟨⟨z0, s1, x2, s3⟩, ⟨v2, rfl, hx2⟩, bounds_i64 hz0, hs1, hi2, hs3⟩
theorem openSym {H : Type} {enc : TypeId × Value → H} {w : World} {base : Nat} {held : Bool} {n : Nat} {cs : List Value} {y : DataW H × List MemPlace} (hl : cs.length = 4) (h : DataW.trod enc Tryz.prog w base (fun _ => true) held n 107 cs = some y) : ∃ x, SymE w cs x ∧ SymIn x :=
  openSym_gen Tryz.underlying107 rfl rfl rfl rfl (by kernel_rfl) (by kernel_rfl) (by kernel_rfl) (by kernel_rfl) Tryz.underlying3 Tryz.underlying9 (fun _ _ _ h => (rowC_of_trod (E := ExprE) (In := ExprIn) (sz := 1) Tryz.underlying105 (by kernel_rfl) (by decide) (fun n cs y hl h => openExpr hl h) h).imp fun _ h => ⟨h.1, h.2⟩) Tryz.underlying9 hl h

theorem openAlt_gen {H : Type} {enc : TypeId × Value → H} {P : Program} {w : World} {base : Nat} {held : Bool} {e : TypeId} {f0 : Field} (he : P.underlying e = some (.struct #[f0])) (o0 : f0.offset = 0) (c0 : P.cellsOf f0.type = 1) (u0 : ∀ (n : Nat) (v : Value) (y : DataW H × List MemPlace), DataW.trod enc P w base (fun _ => true) held n f0.type [v] = some y → ∃ x, RowC 4 SymE w v x ∧ RowInn SymIn x)
    {n : Nat} {cs : List Value} {y : DataW H × List MemPlace} (hl : cs.length = 1) (h : DataW.trod enc P w base (fun _ => true) held n e cs = some y) : ∃ x, AltE w cs x ∧ AltIn x := by
  obtain ⟨xs, k, hk, hxy, _, hxl, hf⟩ := DataW.trod_struct he h
  match xs, hxl, cs, hl with
  | [y0], _, [v0], _ =>
    have g0 := hf 0 f0 rfl
    simp [o0, c0] at g0
    obtain ⟨x0, hx0, hi0⟩ := u0 _ _ _ g0
    exact ⟨x0, ⟨v0, rfl, hx0⟩, hi0⟩
theorem openAlt {H : Type} {enc : TypeId × Value → H} {w : World} {base : Nat} {held : Bool} {n : Nat} {cs : List Value} {y : DataW H × List MemPlace} (hl : cs.length = 1) (h : DataW.trod enc Tryz.prog w base (fun _ => true) held n 79 cs = some y) : ∃ x, AltE w cs x ∧ AltIn x :=
  openAlt_gen Tryz.underlying79 rfl (by kernel_rfl) (fun _ _ _ h => (rowC_of_trod (E := SymE) (In := SymIn) (sz := 4) Tryz.underlying77 (by kernel_rfl) (by decide) (fun n cs y hl h => openSym hl h) h).imp fun _ h => ⟨h.1, h.2⟩) hl h

theorem openRule_gen {H : Type} {enc : TypeId × Value → H} {P : Program} {w : World} {base : Nat} {held : Bool} {e : TypeId} {f0 f1 f2 : Field} (he : P.underlying e = some (.struct #[f0, f1, f2])) (o0 : f0.offset = 0) (o1 : f1.offset = 1) (o2 : f2.offset = 2) (c0 : P.cellsOf f0.type = 1) (c1 : P.cellsOf f1.type = 1) (c2 : P.cellsOf f2.type = 1) (u0 : P.underlying f0.type = some .string) (u1 : ∀ (n : Nat) (v : Value) (y : DataW H × List MemPlace), DataW.trod enc P w base (fun _ => true) held n f1.type [v] = some y → ∃ x, SRow w v x ∧ RowInn StrIn x) (u2 : ∀ (n : Nat) (v : Value) (y : DataW H × List MemPlace), DataW.trod enc P w base (fun _ => true) held n f2.type [v] = some y → ∃ x, RowC 1 AltE w v x ∧ RowInn AltIn x)
    {n : Nat} {cs : List Value} {y : DataW H × List MemPlace} (hl : cs.length = 3) (h : DataW.trod enc P w base (fun _ => true) held n e cs = some y) : ∃ x, RuleE w cs x ∧ RuleIn x := by
  obtain ⟨xs, k, hk, hxy, _, hxl, hf⟩ := DataW.trod_struct he h
  match xs, hxl, cs, hl with
  | [y0, y1, y2], _, [v0, v1, v2], _ =>
    have g0 := hf 0 f0 rfl
    have g1 := hf 1 f1 rfl
    have g2 := hf 2 f2 rfl
    simp [o0, o1, o2, c0, c1, c2] at g0 g1 g2
    obtain ⟨s0, e0, _, hs0⟩ := DataW.trod_string u0 g0
    obtain rfl : v0 = .string s0 := by simpa using e0
    obtain ⟨x1, hx1, hi1⟩ := u1 _ _ _ g1
    obtain ⟨x2, hx2, hi2⟩ := u2 _ _ _ g2
    exact ⟨⟨s0, x1, x2⟩, ⟨v1, v2, rfl, hx1, hx2⟩, hs0, hi1, hi2⟩
theorem openRule {H : Type} {enc : TypeId × Value → H} {w : World} {base : Nat} {held : Bool} {n : Nat} {cs : List Value} {y : DataW H × List MemPlace} (hl : cs.length = 3) (h : DataW.trod enc Tryz.prog w base (fun _ => true) held n 48 cs = some y) : ∃ x, RuleE w cs x ∧ RuleIn x :=
  openRule_gen Tryz.underlying48 rfl rfl rfl (by kernel_rfl) (by kernel_rfl) (by kernel_rfl) Tryz.underlying9 (fun _ _ _ h => (sArg_of_trod Tryz.underlying35 Tryz.underlying9 (by kernel_rfl) h).imp fun _ h => ⟨h.1, h.2⟩) (fun _ _ _ h => (rowC_of_trod (E := AltE) (In := AltIn) (sz := 1) Tryz.underlying46 (by kernel_rfl) (by decide) (fun n cs y hl h => openAlt hl h) h).imp fun _ h => ⟨h.1, h.2⟩) hl h

theorem openGrammar_gen {H : Type} {enc : TypeId × Value → H} {P : Program} {w : World} {base : Nat} {held : Bool} {e : TypeId} {f0 : Field} (he : P.underlying e = some (.struct #[f0])) (o0 : f0.offset = 0) (c0 : P.cellsOf f0.type = 1) (u0 : ∀ (n : Nat) (v : Value) (y : DataW H × List MemPlace), DataW.trod enc P w base (fun _ => true) held n f0.type [v] = some y → ∃ x, RowC 3 RuleE w v x ∧ RowInn RuleIn x)
    {n : Nat} {cs : List Value} {y : DataW H × List MemPlace} (hl : cs.length = 1) (h : DataW.trod enc P w base (fun _ => true) held n e cs = some y) : ∃ x, GrammarE w cs x ∧ GrammarIn x := by
  obtain ⟨xs, k, hk, hxy, _, hxl, hf⟩ := DataW.trod_struct he h
  match xs, hxl, cs, hl with
  | [y0], _, [v0], _ =>
    have g0 := hf 0 f0 rfl
    simp [o0, c0] at g0
    obtain ⟨x0, hx0, hi0⟩ := u0 _ _ _ g0
    exact ⟨x0, ⟨v0, rfl, hx0⟩, hi0⟩
theorem openGrammar {H : Type} {enc : TypeId × Value → H} {w : World} {base : Nat} {held : Bool} {n : Nat} {cs : List Value} {y : DataW H × List MemPlace} (hl : cs.length = 1) (h : DataW.trod enc Tryz.prog w base (fun _ => true) held n 24 cs = some y) : ∃ x, GrammarE w cs x ∧ GrammarIn x :=
  openGrammar_gen Tryz.underlying24 rfl (by kernel_rfl) (fun _ _ _ h => (rowC_of_trod (E := RuleE) (In := RuleIn) (sz := 3) Tryz.underlying22 (by kernel_rfl) (by decide) (fun n cs y hl h => openRule hl h) h).imp fun _ h => ⟨h.1, h.2⟩) hl h

theorem one_cellA {cs : Array Value} (h1 : cs.size = 1) : ∃ u, cs = #[u] :=
  ⟨cs[0], by apply Array.ext; · simp [h1]
             · intro i h2 h3; have : i = 0 := by omega
               subst this; rfl⟩
set_option maxRecDepth 100000 in
theorem gramArg_of {H : Type} {enc : TypeId × Value → H} {w : World} {base : Nat} {held : Bool} {r : Reach} {b0 : Nat} {v : Value} {d : DataW H} {p : List MemPlace}
    (hv : Value.okWide Tryz.prog w r b0 24 v) (h : DataW.Trod enc Tryz.prog w base (fun _ => true) held 24 v d p) : ∃ u xs, v = .agg #[u] ∧ RowC 3 RuleE w u xs ∧ GrammarIn xs := by
  obtain ⟨cs, rfl, hsz⟩ := WideShapes.okWide_struct Tryz.underlying24 hv
  have hC : Tryz.prog.cellsOf 24 = 1 := by kernel_rfl
  obtain ⟨u, rfl⟩ := one_cellA (hsz.trans hC)
  obtain ⟨fuel, hf⟩ := h
  obtain ⟨x, ⟨u', e, hx⟩, hin⟩ := openGrammar (cs := [u]) rfl hf
  cases e
  exact ⟨u, x, rfl, hx, hin⟩

end Go.Proofs.YtjjdeiclfbcicaaGreatDoor

namespace Go.Proofs.YtjjdeiclfbcicaaGreatDoor
open Go.RowKit

set_option maxHeartbeats 6400000 in
set_option maxRecDepth 100000 in
theorem checkGrammar_any (gv : Value) (g : List RuleD) (w : World) (hErr : errTy w) (hg : grammarTot g ≤ 1048576) (h : RowC 3 RuleE w gv g) :
    Calls Tryz.prog 16 #[.agg #[gv]] w fun e w' => e = okE (gramB g) ∧ Below w.heap.size w w' := by
  have HErr : Hid (errTy w) := hErr
  have HG : Hid (RowC 3 RuleE w gv g) := h
  have hgl : g.length ≤ 1048576 := Nat.le_trans (rowTot_len ruleTot g) hg
  have HZ : Hid (∀ r ∈ g, r.params.length ≤ 1048576 ∧ r.alts.length ≤ 1048576 ∧ ∀ a ∈ r.alts, altTot a ≤ 1048576) := fun r hr => by
    have h1 := rowTot_mem ruleTot hr
    have e1 : ruleTot r = r.name.size + rowTot ByteArray.size r.params + rowTot altTot r.alts := rfl
    have h2 := rowTot_len ByteArray.size r.params
    have h3 := rowTot_len altTot r.alts
    have e2 : grammarTot g = rowTot ruleTot g := rfl
    exact ⟨by omega, by omega, fun a ha => by have := rowTot_mem altTot ha; omega⟩
  have HH : Hid (∀ W, Below w.heap.size w W → _) := fun W hb => checkHeads_any gv g W hg (RowC.below RuleE_stable HG.out hb)
  have HB : Hid (∀ _ : Unit, gramB g = (headsB g && g.all (bodyB g))) := fun _ => gram_is g
  obtain ⟨ag, cg, rfl⟩ := h.slice
  clear h hg hErr
  have B0 : Hid (Below w.heap.size w (w.alloc (.cells #[.slice ag g.length cg] 29))) := (Below.refl _ _).alloc (Nat.le_refl _) _
  have b0 : (w.alloc (.cells #[.slice ag g.length cg] 29)).cell? ⟨w.heap.size, 0, none⟩ = some (.slice ag g.length cg) := box_at _ _ _ 0 _ rfl
  cases hh : headsB g with
  | false =>
    rw [hh] at HH
    have HV : Hid (gramB g = false) := by rw [Hid, HB.out (), hh]; rfl
    clear hh HB
    go_enter Tryz.func16, Tryz.ntmps16
    go_wp2_with (go_at_call 24; refine (HH.out _ B0.out).mono ?_; rintro e w1 ⟨he, hb1⟩; rw [he, okE_no]; clear he)
    rw [HV.out]
    exact ⟨rfl, rfl, B0.out.trans (hb1.mono B0.out.size)⟩
  | true =>
    rw [hh] at HH
    have HPr : Hid (∀ k (hk : k < g.length), g[k].params.length ≤ 6) := fun k hk => heads_par hh k hk
    have HV0 : Hid (∀ _ : Unit, gramB g = g.all (bodyB g)) := fun _ => by rw [HB.out (), hh, Bool.true_and]
    clear hh HB
    go_enter Tryz.func16, Tryz.ntmps16
    go_wp2_with fail
    refine (HH.out _ B0.out).mono ?_
    rintro e w1 ⟨he, hb1⟩
    rw [he, okE_yes]
    clear he
    have B1 : Hid (Below w.heap.size w w1) := B0.out.trans (hb1.mono B0.out.size)
    have c0 := cell_keep b0 hb1
    have hs1 : w.heap.size + 1 ≤ w1.heap.size := by have := hb1.size; simp at this; omega
    clear hb1 b0 B0 HH
    go_wp2
    go_loopw [11] (fun iv wr => ∃ k : Nat, iv = .int .i64 k ∧ k ≤ g.length ∧ (g.take k).all (bodyB g) = true ∧ Below (w.heap.size + 1) w1 wr) (fun iv _ => g.length - (intOf iv).toNat)
    case atStart => exact ⟨0, rfl, Nat.zero_le _, rfl, Below.refl _ _⟩
    case round =>
      obtain ⟨k, rfl, hk, hto, hbw⟩ := hrel
      have HTo : Hid ((g.take k).all (bodyB g) = true) := hto
      have hsz : w.heap.size + 1 ≤ wr.heap.size := Nat.le_trans hs1 hbw.size
      have BW : Hid (Below w.heap.size w wr) := B1.out.trans (hbw.mono (by omega))
      have cg1 : wr.cell? ⟨w.heap.size, 0, none⟩ = some (.slice ag g.length cg) := (World.cell?_of_block (hbw.block w.heap.size (by omega))).trans c0
      have BV : Hid (Below (w.heap.size + 1) w1 wr) := hbw
      clear hto hbw
      by_cases hlt : k < g.length
      · obtain ⟨b, off, vs, rfl, _, hc, hE⟩ := (RowC.below RuleE_stable HG.out BW.out).at hlt
        obtain ⟨p0, p1, rfl, hps, hal⟩ := hE
        obtain ⟨ap, cp, rfl⟩ := hps.slice
        obtain ⟨aa, ca, rfl⟩ := hal.slice
        have n0 : wr.cell? ⟨b, off + k * 3, none⟩ = some (.string g[k].name) := hc 0 (by simp)
        have n1 : wr.cell? ⟨b, off + k * 3 + 1, none⟩ = some (.slice ap g[k].params.length cp) := hc 1 (by simp)
        have n2 : wr.cell? ⟨b, off + k * 3 + 2, none⟩ = some (.slice aa g[k].alts.length ca) := hc 2 (by simp)
        have i5 : (k : Int) < (g.length : Int) := by omega
        obtain ⟨hz1, hz2, hz3⟩ := HZ.out _ (List.getElem_mem hlt)
        have HZ3 : Hid (∀ a ∈ g[k].alts, altTot a ≤ 1048576) := hz3
        have HPk : Hid (g[k].params.length ≤ 6) := HPr.out k hlt
        have HNx : Hid (bodyB g g[k] = true → (g.take (k + 1)).all (bodyB g) = true) := fun h => all_to hlt HTo.out h
        have HNo : Hid (bodyB g g[k] = false → gramB g = false) := fun h => by rw [HV0.out ()]; exact all_no hlt h
        have B3 : Hid (Below w.heap.size w (wr.alloc (.cells #[.string g[k].name, .slice ap g[k].params.length cp, .slice aa g[k].alts.length ca] 38))) := BW.out.alloc BW.out.size _
        have BV3 : Hid (Below (w.heap.size + 1) w1 (wr.alloc (.cells #[.string g[k].name, .slice ap g[k].params.length cp, .slice aa g[k].alts.length ca] 38))) := BV.out.alloc hsz _
        have s1 : (wr.alloc (.cells #[.string g[k].name, .slice ap g[k].params.length cp, .slice aa g[k].alts.length ca] 38)).cell? ⟨wr.heap.size, 1, none⟩ = some (.slice ap g[k].params.length cp) := box_at _ _ _ 1 _ rfl
        have s2 : (wr.alloc (.cells #[.string g[k].name, .slice ap g[k].params.length cp, .slice aa g[k].alts.length ca] 38)).cell? ⟨wr.heap.size, 2, none⟩ = some (.slice aa g[k].alts.length ca) := box_at _ _ _ 2 _ rfl
        have cg3 : (wr.alloc (.cells #[.string g[k].name, .slice ap g[k].params.length cp, .slice aa g[k].alts.length ca] 38)).cell? ⟨w.heap.size, 0, none⟩ = some (.slice (some ⟨b, off, none⟩) g.length cg) := cell_keep cg1 ((Below.refl _ _).alloc (Nat.le_refl _) _)
        have HSp : Hid (SRow (wr.alloc (.cells #[.string g[k].name, .slice ap g[k].params.length cp, .slice aa g[k].alts.length ca] 38)) (.slice ap g[k].params.length cp) g[k].params) := hps.below ((Below.refl _ _).alloc (Nat.le_refl _) _)
        have HAl : Hid (RowC 1 AltE (wr.alloc (.cells #[.string g[k].name, .slice ap g[k].params.length cp, .slice aa g[k].alts.length ca] 38)) (.slice aa g[k].alts.length ca) g[k].alts) := RowC.below AltE_stable hal ((Below.refl _ _).alloc (Nat.le_refl _) _)
        have hs3 : (wr.alloc (.cells #[.string g[k].name, .slice ap g[k].params.length cp, .slice aa g[k].alts.length ca] 38)).heap.size = wr.heap.size + 1 := by simp
        clear hc hps hal cg1 hz3
        by_cases h1 : g[k].alts.length < 1
        · have d1 : decide ((1 : Int) ≤ (g[k].alts.length : Int)) = false := by rw [decide_eq_false]; omega
          have HV : Hid (gramB g = false) := HNo.out (by rw [bodyB, decide_eq_false (by omega)]; rfl)
          clear HNx HNo HV0
          go_wp2_with (go_at_call 25; refine (want_no _).mono ?_; rintro e wq ⟨rfl, hw⟩; rw [hw]; clear hw)
          rw [HV.out]
          exact ⟨rfl, rfl, B3.out⟩
        have d1 : decide ((1 : Int) ≤ (g[k].alts.length : Int)) = true := by rw [decide_eq_true]; omega
        by_cases h8 : 8 < g[k].alts.length
        · have d2 : decide ((g[k].alts.length : Int) ≤ 8) = false := by rw [decide_eq_false]; omega
          have HV : Hid (gramB g = false) := HNo.out (by rw [bodyB, decide_eq_false (by omega)]; rfl)
          clear HNx HNo HV0
          go_wp2_with (go_at_call 25; refine (want_no _).mono ?_; rintro e wq ⟨rfl, hw⟩; rw [hw]; clear hw)
          rw [HV.out]
          exact ⟨rfl, rfl, B3.out⟩
        have d2 : decide ((g[k].alts.length : Int) ≤ 8) = true := by rw [decide_eq_true]; omega
        have HBd : Hid (∀ _ : Unit, bodyB g g[k] = g[k].alts.all (altB g g[k].params)) := fun _ => by rw [bodyB, decide_eq_true (by omega), Bool.true_and]
        go_wp2_with (go_at_call 25; refine (want_yes _).mono ?_; rintro e wq ⟨rfl, hw⟩; rw [hw]; clear hw)
        clear n0 n1 n2
        obtain ⟨W3, hW3⟩ : ∃ W3, W3 = (wr.alloc (.cells #[.string g[k].name, .slice ap g[k].params.length cp, .slice aa g[k].alts.length ca] 38)) := ⟨_, rfl⟩
        rw [← hW3] at B3 BV3 s1 s2 cg3 HSp HAl hs3 ⊢
        obtain ⟨q, hq⟩ : ∃ q, q = wr.heap.size := ⟨_, rfl⟩
        rw [← hq] at s1 s2 hs3 hsz ⊢
        clear hW3 hq BW BV
        go_loopw [29] (fun iv wr => ∃ j : Nat, iv = .int .i64 j ∧ j ≤ g[k].alts.length ∧ (g[k].alts.take j).all (altB g g[k].params) = true ∧ Below (q + 1) W3 wr) (fun iv _ => g[k].alts.length - (intOf iv).toNat)
        case atStart => exact ⟨0, rfl, Nat.zero_le _, rfl, Below.refl _ _⟩
        case round =>
          obtain ⟨j, rfl, hj, hto, hbw⟩ := hrel
          have HTj : Hid ((g[k].alts.take j).all (altB g g[k].params) = true) := hto
          have hszj : q + 1 ≤ wr.heap.size := by have := hbw.size; omega
          have BJ : Hid (Below W3.heap.size W3 wr) := by rw [Hid, hs3]; exact hbw
          have BWj : Hid (Below w.heap.size w wr) := B3.out.trans (hbw.mono (by omega))
          have BVj : Hid (Below (w.heap.size + 1) w1 wr) := BV3.out.trans (hbw.mono (by omega))
          have u1 := cell_keep s1 BJ.out
          have cg4 := cell_keep cg3 BJ.out
          clear hto hbw
          by_cases hltj : j < g[k].alts.length
          · obtain ⟨b', off', vs, rfl, _, hc, hE⟩ := (RowC.below AltE_stable HAl.out BJ.out).at hltj
            obtain ⟨r0, rfl, hS⟩ := hE
            obtain ⟨ax, cx, rfl⟩ := hS.slice
            have n0 : wr.cell? ⟨b', off' + j, none⟩ = some (.slice ax g[k].alts[j].length cx) := by have := hc 0 (by simp); simpa using this
            have i6 : (j : Int) < (g[k].alts.length : Int) := by omega
            have BA : Hid (Below (q + 1) W3 (wr.alloc (.cells #[.slice ax g[k].alts[j].length cx] 53))) := by
              have := BJ.out.alloc (by omega) (.cells #[.slice ax g[k].alts[j].length cx] 53)
              rw [hs3] at this
              exact this
            have BA0 : Hid (Below w.heap.size w (wr.alloc (.cells #[.slice ax g[k].alts[j].length cx] 53))) := BWj.out.alloc (by omega) _
            have e0 : (wr.alloc (.cells #[.slice ax g[k].alts[j].length cx] 53)).cell? ⟨wr.heap.size, 0, none⟩ = some (.slice ax g[k].alts[j].length cx) := box_at _ _ _ 0 _ rfl
            have e1 : (wr.alloc (.cells #[.slice ax g[k].alts[j].length cx] 53)).cell? ⟨q, 1, none⟩ = some (.slice ap g[k].params.length cp) := cell_keep u1 ((Below.refl _ _).alloc (Nat.le_refl _) _)
            have e2 : (wr.alloc (.cells #[.slice ax g[k].alts[j].length cx] 53)).cell? ⟨w.heap.size, 0, none⟩ = some (.slice (some ⟨b, off, none⟩) g.length cg) := cell_keep cg4 ((Below.refl _ _).alloc (Nat.le_refl _) _)
            have HC : Hid (∀ _ : Unit, _) := fun _ => checkAlt_any (.slice (some ⟨b, off, none⟩) g.length cg) g (.slice ax g[k].alts[j].length cx) g[k].alts[j] (.slice ap g[k].params.length cp) g[k].params (wr.alloc (.cells #[.slice ax g[k].alts[j].length cx] 53)) (HErr.out.below BA0.out) hgl (HZ3.out _ (List.getElem_mem hltj)) HPk.out (RowC.below RuleE_stable HG.out BA0.out) (fun r hr => (HZ.out r hr).1) (RowC.below SymE_stable hS ((Below.refl _ _).alloc (Nat.le_refl _) _)) (HSp.out.below (by rw [hs3]; exact BA.out))
            clear hc hS u1 cg4
            cases hin : altB g g[k].params g[k].alts[j] with
            | false =>
              rw [hin] at HC
              have HV : Hid (gramB g = false) := HNo.out (by rw [HBd.out ()]; exact all_no hltj hin)
              clear hin HNo HNx HBd HV0
              go_wp2_with (go_at_call 26; refine (HC.out ()).mono ?_; rintro e w4 ⟨he, hb4⟩; rw [he, okE_no]; clear he)
              rw [HV.out]
              exact ⟨rfl, rfl, BA0.out.trans (hb4.mono BA0.out.size)⟩
            | true =>
              rw [hin] at HC
              have HN : Hid ((g[k].alts.take (j + 1)).all (altB g g[k].params) = true) := all_to hltj HTj.out hin
              clear hin
              go_wp2_with (go_at_call 26; refine (HC.out ()).mono ?_; rintro e w4 ⟨he, hb4⟩; rw [he, okE_yes]; clear he)
              go_roundw
              case rel => exact ⟨j + 1, by go_num, by omega, HN.out, BA.out.trans (hb4.mono (by simp; omega))⟩
              case measure => simp [intOf]; omega
          · obtain rfl : j = g[k].alts.length := by omega
            have HY : Hid (bodyB g g[k] = true) := by
              have := HTj.out
              rw [List.take_of_length_le (Nat.le_refl _)] at this
              rw [Hid, HBd.out (), this]
            clear HBd
            go_wp2
            go_roundw
            case rel => exact ⟨k + 1, by go_num, by omega, HNx.out HY.out, BVj.out⟩
            case measure => simp [intOf]; omega
      · obtain rfl : k = g.length := by omega
        have HV : Hid (gramB g = true) := by
          have := HTo.out
          rw [List.take_of_length_le (Nat.le_refl _)] at this
          rw [Hid, HV0.out (), this]
        clear HV0
        go_wp2
        go_end0
        rw [HV.out]
        exact ⟨rfl, BW.out⟩

end Go.Proofs.YtjjdeiclfbcicaaGreatDoor

namespace Go.Proofs.YtjjdeiclfbcicaaGreatDoor
open Go.RowKit

theorem check1_any (gv : Value) (g : List RuleD) (B : Nat) (w : World) (hErr : errTy w) (hg : grammarTot g ≤ 1048576) (h : RowC 3 RuleE w gv g) (hB : w.cell? ⟨B, 0, none⟩ = some gv) :
    Calls Tryz.prog 15 #[.pointer (some ⟨B, 0, none⟩)] w fun e w' => e = okE (gramB g) ∧ Below w.heap.size w w' := by
  have HC : Hid (∀ _ : Unit, _) := fun _ => checkGrammar_any gv g w hErr hg h
  obtain ⟨ag, cg, rfl⟩ := h.slice
  clear h
  cases hb : gramB g with
  | false =>
    rw [hb] at HC
    clear hb
    go_enter Tryz.func15, Tryz.ntmps15
    go_wp2_with (go_at_call 16; refine (HC.out ()).mono ?_; rintro e w4 ⟨he, hb4⟩; rw [he, okE_no]; clear he)
    exact ⟨rfl, rfl, hb4⟩
  | true =>
    rw [hb] at HC
    clear hb
    go_enter Tryz.func15, Tryz.ntmps15
    go_wp2_with (go_at_call 16; refine (HC.out ()).mono ?_; rintro e w4 ⟨he, hb4⟩; rw [he, okE_yes]; clear he)
    go_end0
    exact ⟨rfl, hb4⟩

theorem catch_panicking (p : Addr) (x : Bool) (w : World) (hc : w.cell? p = some (.bool x)) (hz : w.frozen? p = false) :
    CallsD Tryz.prog 23 #[.pointer (some p)] (.panicking nrC) w fun e u' w' =>
      e = .returned (.tuple #[]) ∧ u' = .panicking [{ v := .iface 72 (.agg #[]), recovered := true }] ∧ w' = w.setCell p (.bool false) := by
  refine callsD_of_wpS Tryz.func23 rfl fun c₀ cs hu => ?_
  apply wpS_region
  simp [wpOpsS, go_sem, recoverD, hu, nrC, Tryz.ntmps23, hc, hz, bodyPostS, results, Tryz.results23]

theorem catch_idle (p : Addr) (x : Bool) (w : World) (hc : w.cell? p = some (.bool x)) (hz : w.frozen? p = false) :
    CallsD Tryz.prog 23 #[.pointer (some p)] .returning w fun e u' w' => e = .returned (.tuple #[]) ∧ u' = .returning ∧ w' = w.setCell p (.bool true) := by
  refine callsD_of_wpS Tryz.func23 rfl fun c₀ cs hu => ?_
  apply wpS_region
  simp [wpOpsS, go_sem, recoverD, hu, Tryz.ntmps23, hc, hz, bodyPostS, results, Tryz.results23]
  cases c₀
  simp_all

theorem frozen_kept {W W' : World} {a : Addr} {v : Value} (hc : W.cell? a = some v) (h : W.frozen? a = false) (hb : Below W.heap.size W W') : W'.frozen? a = false := by
  have hlt := World.block_lt_of_cell? W _ hc
  unfold World.frozen? at h ⊢
  rw [hb.block a.block hlt]
  exact h

set_option maxHeartbeats 1600000 in
theorem passes_any (b : Bool) (B : Nat) (w : World) (hC : ∀ W, Below w.heap.size w W → Calls Tryz.prog 15 #[.pointer (some ⟨B, 0, none⟩)] W fun e w' => e = okE b ∧ Below W.heap.size W w') :
    Calls Tryz.prog 14 #[.func (.func 15) #[] #[.pointer (some ⟨B, 0, none⟩)]] w fun e w' => e = .returned (.bool b) ∧ Below w.heap.size w w' := by
  have hmf : ∀ (fn : Fn) (first cap : Array Value) (w : World), (Instr.makeFunc fn first cap).run Tryz.prog w = .ok (.func fn first cap) w := fun _ _ _ _ => rfl
  have HC : Hid (∀ W, Below w.heap.size w W → Calls Tryz.prog 15 #[.pointer (some ⟨B, 0, none⟩)] W fun e w' => e = okE b ∧ Below W.heap.size W w') := hC
  clear hC
  have B0 : Hid (Below w.heap.size w (w.alloc (.cells #[.bool false] 4))) := (Below.refl _ _).alloc (Nat.le_refl _) _
  have b0 : (w.alloc (.cells #[.bool false] 4)).cell? ⟨w.heap.size, 0, none⟩ = some (.bool false) := box_at _ _ _ 0 _ rfl
  have z0 : (w.alloc (.cells #[.bool false] 4)).frozen? ⟨w.heap.size, 0, none⟩ = false := by simp
  cases b with
  | true =>
    go_enter_defers Tryz.func14, Tryz.ntmps14
    go_wp2_with (go_at_call 15; refine (HC.out _ B0.out).mono ?_; rintro e w1 ⟨he, hb1⟩; rw [he, okE_yes]; clear he; have c1 := cell_keep b0 hb1; have z1 := frozen_kept b0 z0 hb1)
    have B1 : Hid (Below w.heap.size w w1) := B0.out.trans (hb1.mono B0.out.size)
    refine leaves_cons (f := 23) (args := #[.pointer (some ⟨w.heap.size, 0, none⟩)]) (by simp) (by simp [go_sem]) ?_
    refine (catch_idle ⟨w.heap.size, 0, none⟩ true _ ?_ ?_).mono ?_
    · exact World.cell?_setCell_same' _ _ _ (by rw [c1]; rfl)
    · simpa using z1
    rintro e u' w'' ⟨rfl, rfl, rfl⟩
    have cf : ((w1.setCell ⟨w.heap.size, 0, none⟩ (.bool true)).setCell ⟨w.heap.size, 0, none⟩ (.bool true)).cell? ⟨w.heap.size, 0, none⟩ = some (.bool true) := World.cell?_setCell_same' _ _ _ (by rw [World.cell?_setCell_same' _ _ _ (by rw [c1]; rfl)]; rfl)
    have BF : Below w.heap.size w ((w1.setCell ⟨w.heap.size, 0, none⟩ (.bool true)).setCell ⟨w.heap.size, 0, none⟩ (.bool true)) := (B1.out.setCell (Nat.le_refl _) _).setCell (Nat.le_refl _) _
    simp only [Leaves, settle]
    exact ⟨.bool true, by simp [results, Tryz.results14, go_sem, cf], rfl, BF⟩
  | false =>
    go_enter_defers Tryz.func14, Tryz.ntmps14
    go_wp2_with (go_at_call 15; refine (HC.out _ B0.out).mono ?_; rintro e w1 ⟨he, hb1⟩; rw [he, okE_no]; clear he; have c1 := cell_keep b0 hb1; have z1 := frozen_kept b0 z0 hb1)
    have B1 : Hid (Below w.heap.size w w1) := B0.out.trans (hb1.mono B0.out.size)
    refine leaves_cons (f := 23) (args := #[.pointer (some ⟨w.heap.size, 0, none⟩)]) (by simp) (by simp [go_sem]) ?_
    refine (catch_panicking ⟨w.heap.size, 0, none⟩ false _ c1 z1).mono ?_
    rintro e u' w'' ⟨rfl, rfl, rfl⟩
    have cf : (w1.setCell ⟨w.heap.size, 0, none⟩ (.bool false)).cell? ⟨w.heap.size, 0, none⟩ = some (.bool false) := World.cell?_setCell_same' _ _ _ (by rw [c1]; rfl)
    have BF : Below w.heap.size w (w1.setCell ⟨w.heap.size, 0, none⟩ (.bool false)) := B1.out.setCell (Nat.le_refl _) _
    simp only [Leaves, settle, List.dropWhile_nil]
    exact ⟨.bool false, by simp [results, Tryz.results14, go_sem, cf], rfl, BF⟩

theorem implGrammarOk_any (gv : Value) (g : List RuleD) (w : World) (hErr : errTy w) (hg : grammarTot g ≤ 1048576) (h : RowC 3 RuleE w gv g) :
    Calls Tryz.prog 7 #[.agg #[gv]] w fun e w' => e = .returned (.bool (gramB g)) ∧ Below w.heap.size w w' := by
  have hmf : ∀ (fn : Fn) (first cap : Array Value) (w : World), (Instr.makeFunc fn first cap).run Tryz.prog w = .ok (.func fn first cap) w := fun _ _ _ _ => rfl
  obtain ⟨ag, cg, rfl⟩ := h.slice
  have B0 : Hid (Below w.heap.size w (w.alloc (.cells #[.slice ag g.length cg] 29))) := (Below.refl _ _).alloc (Nat.le_refl _) _
  have b0 : (w.alloc (.cells #[.slice ag g.length cg] 29)).cell? ⟨w.heap.size, 0, none⟩ = some (.slice ag g.length cg) := box_at _ _ _ 0 _ rfl
  have HP : Hid (∀ _ : Unit, _) := fun _ => passes_any (gramB g) w.heap.size (w.alloc (.cells #[.slice ag g.length cg] 29)) (fun W hb => check1_any (.slice ag g.length cg) g w.heap.size W (hErr.below (B0.out.trans (hb.mono B0.out.size))) hg (RowC.below RuleE_stable h (B0.out.trans (hb.mono B0.out.size))) (cell_keep b0 hb))
  clear h hErr
  go_enter Tryz.func7, Tryz.ntmps7
  go_wp2_with (go_at_call 14; refine (HP.out ()).mono ?_; rintro e w1 ⟨rfl, hb1⟩)
  go_ret
  exact ⟨rfl, B0.out.trans (hb1.mono B0.out.size)⟩

end Go.Proofs.YtjjdeiclfbcicaaGreatDoor

namespace Go.Proofs.YtjjdeiclfbcicaaGreatDoor
open Go.RowKit
theorem fnExactGrammarOk_walk (v : Value) (xs : List RuleD) (w : World) (h : RowC 3 RuleE w v xs) (hin : GrammarIn xs) (hg : errTy w) :
    Calls Tryz.prog 3 #[.agg #[v]] w fun e w' => e = .returned (.bool true) ∧ Below w.heap.size w w' :=
  fnExactGrammarOk_of v xs w (fun v xs W hb ht _ h => implGrammarOk_any v xs W (hg.below hb) ht h) h hin
end Go.Proofs.YtjjdeiclfbcicaaGreatDoor
