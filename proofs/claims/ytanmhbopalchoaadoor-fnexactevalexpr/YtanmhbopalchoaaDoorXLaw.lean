/- The exact laws on ExprOk and EvalExpr, walked out of contracts, the program's own contracts handed in. -/
import Derived.Test.YtanmhbopalchoaaDoorXKit3
import Derived.Test.YtanmhbopalchoaaDoorXEval
import Derived.Test.YtanmhbopalchoaaDoorVLaw
namespace Go.Proofs.YtanmhbopalchoaaDoor
open Go.RowKit

theorem nIn_of {ns : List NodeD} {r left : Int} (hl : left ≤ 1048576) (h : 0 ≤ r ∧ r + ns.length + totN ns = left) (hb : ∀ x ∈ ns, NodeIn x) : NIn ns :=
  ⟨by omega, fun x hx => by
    have h1 := totN_mem hx
    have h2 := hb x hx
    exact ⟨by omega, by omega, h2.1, h2.2.1, h2.2.2.2.2⟩⟩
theorem NIn.kids {ns : List NodeD} (h : NIn ns) : ∀ x ∈ ns, x.kids.length ≤ 1048576 := fun x hx => (h.2 x hx).2.1

theorem keep2 {W W' : World} {a b : Addr} {x y : Value} (h : W.cell? a = some x ∧ W.cell? b = some y) (hb : Below W.heap.size W W') : W'.cell? a = some x ∧ W'.cell? b = some y :=
  ⟨cell_keep h.1 hb, cell_keep h.2 hb⟩

set_option maxHeartbeats 1600000 in
set_option maxRecDepth 100000 in
theorem fnExactExprOk_of (v : Value) (ns : List NodeD) (w : World) (hI : ∀ (v : Value) (ns : List NodeD) (W : World), Below w.heap.size w W → NIn ns → NRow W v ns → Calls Tryd.prog 14 #[.agg #[v]] W fun e w' => e = .returned (.bool (exprB ns)) ∧ Below W.heap.size W w') (h : NArg w v ns) :
    Calls Tryd.prog 6 #[.agg #[v]] w fun e w' => e = .returned (.bool true) ∧ Below w.heap.size w w' := by
  have HA : Hid (NArg w v ns) := h
  have HI : Hid (∀ (v : Value) (ns : List NodeD) (W : World), Below w.heap.size w W → NIn ns → NRow W v ns → Calls Tryd.prog 14 #[.agg #[v]] W fun e w' => e = .returned (.bool (exprB ns)) ∧ Below W.heap.size W w') := hI
  obtain ⟨a, cap, rfl⟩ := h.1.slice
  clear h hI
  have B0 : Hid (Below w.heap.size w (w.alloc (.cells #[.slice a ns.length cap] 46))) := (Below.refl _ _).alloc (Nat.le_refl _) _
  have E0 : Hid ((w.alloc (.cells #[.slice a ns.length cap] 46)).cell? ⟨w.heap.size, 0, none⟩ = some (.slice a ns.length cap)) := lit_one _ _ _
  go_enter Tryd.func6, Tryd.ntmps6
  go_wp2_with fail
  refine (szExpr_any _ ns 1048576 _ (by omega) (by omega) ⟨HA.out.1.below B0.out, HA.out.2⟩).mono ?_
  rintro e w1 ⟨r, rfl, hr, hb1⟩
  have B1 : Hid (Below w.heap.size w w1) := B0.out.trans (hb1.mono B0.out.size)
  have hE1 := cell_keep E0.out hb1
  clear hb1 E0 B0
  rcases hr with rfl | hr
  · go_wp2
    go_ret
    exact ⟨rfl, B1.out⟩
  · have HV : Hid (NIn ns) := nIn_of (by omega) hr HA.out.2.2
    have hr2 : ¬ r < 0 := by omega
    have hxl : ns.length ≤ 1048576 := HV.out.1
    clear hr
    go_wp2_with fail
    refine (toExpr_any _ ns _ hxl HV.out.kids (HA.out.1.below B1.out)).mono ?_
    rintro e w2 ⟨o2, rfl, ho2, hb2⟩
    have O2 : Hid (NRow w2 o2 ns) := ho2.row
    have B2 : Hid (Below w.heap.size w w2) := B1.out.trans (hb2.mono B1.out.size)
    have hE2 := cell_keep hE1 hb2
    clear hb2 ho2 hE1
    go_wp2_with fail
    refine (specExprOk_any _ ns _ HV.out O2.out).mono ?_
    rintro e w3 ⟨rfl, hb3⟩
    have B3 : Hid (Below w.heap.size w w3) := B2.out.trans (hb3.mono B2.out.size)
    have hE3 := cell_keep hE2 hb3
    clear hb3 hE2
    go_wp2_with fail
    refine (toExpr_any _ ns _ hxl HV.out.kids (HA.out.1.below B3.out)).mono ?_
    rintro e w4 ⟨o4, rfl, ho4, hb4⟩
    obtain ⟨a4, c4, rfl⟩ := ho4.row.slice
    have bal := (Below.refl w4.heap.size w4).alloc (Nat.le_refl _) (.cells #[.slice a4 ns.length c4] 26)
    have O5 : Hid (NRow (w4.alloc (.cells #[.slice a4 ns.length c4] 26)) (.slice a4 ns.length c4) ns) := ho4.row.below bal
    have B4 : Hid (Below w.heap.size w w4) := B3.out.trans (hb4.mono B3.out.size)
    have B5 : Hid (Below w.heap.size w (w4.alloc (.cells #[.slice a4 ns.length c4] 26))) := B4.out.trans (bal.mono B4.out.size)
    have hE5 := cell_keep (cell_keep hE3 hb4) bal
    have hX5 := lit_one w4 (.slice a4 ns.length c4) 26
    clear hb4 ho4 bal hE3
    go_wp2_with fail
    generalize w4.alloc (.cells #[.slice a4 ns.length c4] 26) = w5 at *
    generalize w4.heap.size = H4 at *
    refine (HI.out _ ns _ B5.out HV.out O5.out).mono ?_
    rintro e w6 ⟨rfl, hb6⟩
    have O6 : Hid (NRow w6 (.slice a4 ns.length c4) ns) := O5.out.below hb6
    have B6 : Hid (Below w.heap.size w w6) := B5.out.trans (hb6.mono B5.out.size)
    have hE6 := cell_keep hE5 hb6
    have hX6 := cell_keep hX5 hb6
    clear hb6 hE5 hX5
    generalize exprB ns = bb at *
    have HT : Hid (_) := toExpr_any (.slice a ns.length cap) ns w6.drew hxl HV.out.kids (HA.out.1.below (bel_drewN B6.out 1))
    have O6d : Hid (NRow w6.drew (.slice a4 ns.length c4) ns) := O6.out.below (bel_drewN (Below.refl _ _) 1)
    go_wp2
    go_region_held3 (fun W => W.cell? ⟨w.heap.size, 0, none⟩ = some (.slice a ns.length cap) ∧ W.cell? ⟨H4, 0, none⟩ = some (.slice a4 ns.length c4))
      ((first | exact keep2 (by assumption) hb8 | exact keep2 (by assumption) hb7 | go_keep))
      ((first
        | (go_at_call 26; refine Calls.mono HT.out ?_; rintro e w7 ⟨o7, rfl, ho7, hb7⟩)
        | (go_at_call 27; refine (eqExpr_same _ _ ns _ hxl HV.out.kids (O6d.out.below hb7) ho7.row).mono ?_; rintro e w8 ⟨rfl, hb8⟩)))
    have B8 : Hid (Below w.heap.size w w8) := by
      have h7 := B6.out.trans ((bel_of_drew hb7).mono B6.out.size)
      exact h7.trans (hb8.mono h7.size)
    clear hb7 hb8 ho7
    go_wp2
    go_ret
    exact ⟨rfl, B8.out⟩

theorem optV_some (o : Option Int) : ∃ (z : Int) (b : Bool), optV o = .tuple #[.int .i64 z, .bool b] := by
  cases o with
  | none => exact ⟨_, _, rfl⟩
  | some z => exact ⟨_, _, rfl⟩

set_option maxHeartbeats 3200000 in
set_option maxRecDepth 100000 in
theorem fnExactEvalExpr_of (v : Value) (ns : List NodeD) (u : Value) (xs : List VarD) (here : Int) (wf : (Lit.int .i64 here).wf = true) (w : World) (hI : ∀ (v u : Value) (ns : List NodeD) (xs : List VarD) (here : Int) (W : World), Below w.heap.size w W → NIn ns → VIn xs → i64 here → NRow W v ns → VRow W u xs → Calls Tryd.prog 12 #[.agg #[v], u, .int .i64 here] W fun e w' => e = .returned (optV (evalB ns (getB xs) here)) ∧ Below W.heap.size W w') (h : NArg w v ns) (h' : VArg w u xs) :
    Calls Tryd.prog 7 #[.agg #[v], u, .int .i64 here] w fun e w' => e = .returned (.bool true) ∧ Below w.heap.size w w' := by
  have HA : Hid (NArg w v ns) := h
  have HU : Hid (VArg w u xs) := h'
  have HI0 : Hid (∀ (v u : Value) (ns : List NodeD) (xs : List VarD) (here : Int) (W : World), Below w.heap.size w W → NIn ns → VIn xs → i64 here → NRow W v ns → VRow W u xs → Calls Tryd.prog 12 #[.agg #[v], u, .int .i64 here] W fun e w' => e = .returned (optV (evalB ns (getB xs) here)) ∧ Below W.heap.size W w') := hI
  have hhere : i64 here := bounds_i64 wf
  have HH : Hid (i64 here) := hhere
  obtain ⟨a, cap, rfl⟩ := h.1.slice
  obtain ⟨au, capu, rfl⟩ := h'.1.slice
  clear h h' hI wf hhere
  have B0 : Hid (Below w.heap.size w (w.alloc (.cells #[.slice a ns.length cap] 46))) := (Below.refl _ _).alloc (Nat.le_refl _) _
  have E0 : Hid ((w.alloc (.cells #[.slice a ns.length cap] 46)).cell? ⟨w.heap.size, 0, none⟩ = some (.slice a ns.length cap)) := lit_one _ _ _
  go_enter Tryd.func7, Tryd.ntmps7
  go_wp2_with fail
  refine (szExpr_any _ ns 1048576 _ (by omega) (by omega) ⟨HA.out.1.below B0.out, HA.out.2⟩).mono ?_
  rintro e w1 ⟨r, rfl, hr, hb1⟩
  have B1 : Hid (Below w.heap.size w w1) := B0.out.trans (hb1.mono B0.out.size)
  have hE1 := cell_keep E0.out hb1
  clear hb1 E0 B0
  rcases hr with rfl | hr
  · go_wp2
    go_ret
    exact ⟨rfl, B1.out⟩
  have HV : Hid (NIn ns) := nIn_of (by omega) hr HA.out.2.2
  have hr2 : ¬ r < 0 := by omega
  have hr3 : 0 ≤ r ∧ r ≤ 1048576 := by omega
  have hxl : ns.length ≤ 1048576 := HV.out.1
  clear hr
  go_wp2_with fail
  refine (szVarS_any _ xs r _ hr3.1 hr3.2 HU.out.2.1 (fun x hx => (HU.out.2.2 x hx).1) (HU.out.1.below B1.out)).mono ?_
  rintro e w1' ⟨s, rfl, hs, hb1⟩
  have B1' : Hid (Below w.heap.size w w1') := B1.out.trans (hb1.mono B1.out.size)
  have hE1' := cell_keep hE1 hb1
  clear hb1 hE1
  rcases hs with rfl | hs
  · go_wp2
    go_ret
    exact ⟨rfl, B1'.out⟩
  have HX : Hid (VIn xs) := ⟨by omega, fun x hx => by have := totS_mem hx; omega, fun x hx => (HU.out.2.2 x hx).2⟩
  have hs2 : ¬ s < 0 := by omega
  have hvl : xs.length ≤ 1048576 := HX.out.1
  clear hs hr3
  obtain ⟨z, bz, hval⟩ := optV_some (evalB ns (getB xs) here)
  have HVal : Hid (optV (evalB ns (getB xs) here) = .tuple #[.int .i64 z, .bool bz]) := hval
  clear hval
  have HI : Hid (∀ (v u : Value) (W : World), Below w.heap.size w W → NRow W v ns → VRow W u xs → Calls Tryd.prog 12 #[.agg #[v], u, .int .i64 here] W fun e w' => e = .returned (.tuple #[.int .i64 z, .bool bz]) ∧ Below W.heap.size W w') := fun v u W hbw hv hu => by
    rw [← HVal.out]; exact HI0.out v u ns xs here W hbw HV.out HX.out HH.out hv hu
  have HSp : Hid (∀ (v u : Value) (W : World), NRow W v ns → VRow W u xs → Calls Tryd.prog 13 #[.agg #[v], u, .int .i64 here] W fun e w' => e = .returned (.tuple #[.int .i64 z, .bool bz]) ∧ Below W.heap.size W w') := fun v u W hv hu => by
    rw [← HVal.out]; exact specEvalExpr_any v u ns xs here W HV.out hvl hv hu
  clear HI0 HVal
  go_wp2_with fail
  refine (toExpr_any _ ns _ hxl HV.out.kids (HA.out.1.below B1'.out)).mono ?_
  rintro e w2 ⟨o2, rfl, ho2, hb2⟩
  have O2 : Hid (NRow w2 o2 ns) := ho2.row
  have B2 : Hid (Below w.heap.size w w2) := B1'.out.trans (hb2.mono B1'.out.size)
  have hE2 := cell_keep hE1' hb2
  clear hb2 ho2 hE1'
  go_wp2_with fail
  refine (toVarS_any _ xs _ hvl (HU.out.1.below B2.out)).mono ?_
  rintro e w3 ⟨p3, rfl, hp3, hb3⟩
  have O3 : Hid (NRow w3 o2 ns) := O2.out.below hb3
  have P3 : Hid (VRow w3 p3 xs) := hp3.row
  have B3 : Hid (Below w.heap.size w w3) := B2.out.trans (hb3.mono B2.out.size)
  have hE3 := cell_keep hE2 hb3
  clear hb3 hp3 hE2
  go_wp2_with fail
  refine (HSp.out _ _ _ O3.out P3.out).mono ?_
  rintro e w4 ⟨rfl, hb4⟩
  have B4 : Hid (Below w.heap.size w w4) := B3.out.trans (hb4.mono B3.out.size)
  have hE4 := cell_keep hE3 hb4
  clear hb4 hE3
  go_wp2_with fail
  refine (toExpr_any _ ns _ hxl HV.out.kids (HA.out.1.below B4.out)).mono ?_
  rintro e w5 ⟨o5, rfl, ho5, hb5⟩
  obtain ⟨a5, c5, rfl⟩ := ho5.row.slice
  have bal := (Below.refl w5.heap.size w5).alloc (Nat.le_refl _) (.cells #[.slice a5 ns.length c5] 26)
  have O6 : Hid (NRow (w5.alloc (.cells #[.slice a5 ns.length c5] 26)) (.slice a5 ns.length c5) ns) := ho5.row.below bal
  have B5 : Hid (Below w.heap.size w w5) := B4.out.trans (hb5.mono B4.out.size)
  have B6 : Hid (Below w.heap.size w (w5.alloc (.cells #[.slice a5 ns.length c5] 26))) := B5.out.trans (bal.mono B5.out.size)
  have hE6 := cell_keep (cell_keep hE4 hb5) bal
  have hX6 := lit_one w5 (.slice a5 ns.length c5) 26
  clear hb5 ho5 bal hE4
  go_wp2_with fail
  generalize w5.alloc (.cells #[.slice a5 ns.length c5] 26) = w6 at *
  generalize w5.heap.size = H5 at *
  refine (toVarS_any _ xs _ hvl (HU.out.1.below B6.out)).mono ?_
  rintro e w7 ⟨p7, rfl, hp7, hb7⟩
  have O7 : Hid (NRow w7 (.slice a5 ns.length c5) ns) := O6.out.below hb7
  have P7 : Hid (VRow w7 p7 xs) := hp7.row
  have B7 : Hid (Below w.heap.size w w7) := B6.out.trans (hb7.mono B6.out.size)
  have hE7 := cell_keep hE6 hb7
  have hX7 := cell_keep hX6 hb7
  obtain ⟨ap, cp, rfl⟩ := hp7.row.slice
  clear hb7 hp7 hE6 hX6
  go_wp2_with fail
  refine (HI.out _ _ _ B7.out O7.out P7.out).mono ?_
  rintro e w8 ⟨rfl, hb8⟩
  have O8 : Hid (NRow w8 (.slice a5 ns.length c5) ns) := O7.out.below hb8
  have P8 : Hid (VRow w8 (.slice ap xs.length cp) xs) := P7.out.below hb8
  have B8 : Hid (Below w.heap.size w w8) := B7.out.trans (hb8.mono B7.out.size)
  have hE8 := cell_keep hE7 hb8
  have hX8 := cell_keep hX7 hb8
  clear hb8 hE7 hX7
  have HT : Hid (_) := toExpr_any (.slice a ns.length cap) ns w8.drew hxl HV.out.kids (HA.out.1.below (bel_drewN B8.out 1))
  have O8d : Hid (NRow w8.drew (.slice a5 ns.length c5) ns) := O8.out.below (bel_drewN (Below.refl _ _) 1)
  go_wp2
  go_region_held3 (fun W => W.cell? ⟨w.heap.size, 0, none⟩ = some (.slice a ns.length cap) ∧ W.cell? ⟨H5, 0, none⟩ = some (.slice a5 ns.length c5))
    ((first | exact keep2 (by assumption) hb10 | exact keep2 (by assumption) hb9 | go_keep))
    ((first
      | (go_at_call 26; refine Calls.mono HT.out ?_; rintro e w9 ⟨o9, rfl, ho9, hb9⟩)
      | (go_at_call 27; refine (eqExpr_same _ _ ns _ hxl HV.out.kids (O8d.out.below hb9) ho9.row).mono ?_; rintro e w10 ⟨rfl, hb10⟩)))
  have h9 : Below w8.heap.size w8 w10 := (bel_of_drew hb9).trans (hb10.mono (bel_of_drew hb9).size)
  have B10 : Hid (Below w.heap.size w w10) := B8.out.trans (h9.mono B8.out.size)
  have P10 : Hid (VRow w10 (.slice ap xs.length cp) xs) := P8.out.below h9
  clear hb9 hb10 ho9 h9
  go_wp2_with fail
  refine (toVarS_any _ xs _ hvl (HU.out.1.below B10.out)).mono ?_
  rintro e w11 ⟨p11, rfl, hp11, hb11⟩
  have P11 : Hid (VRow w11 (.slice ap xs.length cp) xs) := P10.out.below hb11
  have R11 : Hid (VRow w11 p11 xs) := hp11.row
  have B11 : Hid (Below w.heap.size w w11) := B10.out.trans (hb11.mono B10.out.size)
  clear hb11 hp11
  go_wp2_with fail
  refine (eqVarS_any _ _ xs xs _ (by omega) P11.out R11.out).mono ?_
  rw [decide_eq_true (rfl : xs = xs)]
  rintro e w12 ⟨rfl, hb12⟩
  have B12 : Hid (Below w.heap.size w w12) := B11.out.trans (hb12.mono B11.out.size)
  clear hb12
  go_wp2
  go_ret
  exact ⟨rfl, B12.out⟩

/-- An expression that came in as an argument. -/
theorem exArg_of {H : Type} {enc : TypeId × Value → H} {P : Program} {w : World} {base : Nat} {held : Bool} {r : Reach} {b0 : Nat} {s e : TypeId} {g0 f0 f1 f2 f3 : Field} {ke : TypeId} {v : Value} {d : DataW H} {p : List MemPlace} (hs : P.underlying s = some (.struct #[g0])) (hC : P.cellsOf s = 1) (go : g0.offset = 0) (gc : P.cellsOf g0.type = 1)
    (ht : P.underlying g0.type = some (.slice e)) (he : P.underlying e = some (.struct #[f0, f1, f2, f3]))
    (ce : P.cellsOf e = 4) (o0 : f0.offset = 0) (o1 : f1.offset = 1) (o2 : f2.offset = 2) (o3 : f3.offset = 3) (c0 : P.cellsOf f0.type = 1) (c1 : P.cellsOf f1.type = 1) (c2 : P.cellsOf f2.type = 1) (c3 : P.cellsOf f3.type = 1)
    (u0 : P.underlying f0.type = some (.int .i64)) (u1 : P.underlying f1.type = some (.int .i64)) (u2 : P.underlying f2.type = some .string) (u3 : P.underlying f3.type = some (.slice ke)) (uk : P.underlying ke = some (.int .i64)) (ck : P.cellsOf ke = 1)
    (hv : Value.okWide P w r b0 s v) (h : DataW.Trod enc P w base (fun _ => true) held s v d p) : ∃ u ns, v = .agg #[u] ∧ NArg w u ns := by
  obtain ⟨cs, rfl, hsz⟩ := WideShapes.okWide_struct hs hv
  obtain ⟨u, rfl⟩ : ∃ u, cs = #[u] := by
    have h1 : cs.size = 1 := hsz.trans hC
    exact ⟨cs[0], by apply Array.ext; · simp [h1]
                     · intro i h2 h3; have : i = 0 := by omega
                       subst this; rfl⟩
  obtain ⟨fuel, hf⟩ := h
  obtain ⟨xs, k, hk, hxy, _, hxl, hff⟩ := DataW.trod_struct hs hf
  match xs, hxl with
  | [y0], _ =>
    have g := hff 0 g0 rfl
    simp [go, gc, Value.cells] at g
    obtain ⟨ns, hn⟩ := nArg_of_trod ht he ce o0 o1 o2 o3 c0 c1 c2 c3 u0 u1 u2 u3 uk ck g
    exact ⟨u, ns, rfl, hn⟩

end Go.Proofs.YtanmhbopalchoaaDoor
