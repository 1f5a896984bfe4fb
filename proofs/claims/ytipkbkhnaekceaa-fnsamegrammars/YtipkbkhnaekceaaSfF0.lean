/- The specification's l11Row; both tied together (printed by mk/sfr2.py). -/
/- Whether a grammar with groups has a right form, step by step. No program is named. -/
import Derived.Test.YtipkbkhnaekceaaSfR
import Derived.Test.YtipkbkhnaekceaaFlG0
import Derived.Test.YtipkbkhnaekceaaS11N
namespace Go.Proofs.Ytipkbkhnaekceaa
open Go.RowKit
set_option linter.unusedVariables false

theorem ShI.step {ns : List SNodeD} {rs : List SRuleD} {W : World} {an ar : Option Addr} {cn cr : Nat} {kd : Int} {tx bd : ByteArray} {aa : Option Addr} {la ca : Nat} {ka : Option Addr} {ck : Nat} {ks : List Int} {w1 w2 : World} (h : ShI ns rs W an ar cn cr kd tx bd aa la ca ka ck ks w1) (hb : Below w1.heap.size w1 w2) : ShI ns rs W an ar cn cr kd tx bd aa la ca ka ck ks w2 :=
  ⟨h.s.step hb, (hb.block _ (Array.getElem?_eq_some_iff.1 h.x).1).trans h.x, h.z.below hb⟩

set_option maxHeartbeats 12800000 in
set_option maxRecDepth 100000 in
theorem row_kn (ns : List SNodeD) (rs : List SRuleD) (hS : Shaped ns) (hL : LeafsIn ns) (hl : ns.length ≤ 100000) (hrl : rs.length ≤ 100000) (i : Nat) (ih : ∀ z, z < i → AltKn ns rs z) : RowKn ns rs i := by
  intro f nv rv u known W hi hf h5 hkn hN hR hU
  obtain ⟨an, cn, rfl⟩ := RowC.slice hN
  obtain ⟨ar, cr, rfl⟩ := RowC.slice hR
  obtain ⟨au, cu, rfl⟩ := hU.slice
  have S1 : Hid (SBox ns rs W an ar cn cr (W.alloc (.cells #[.slice an ns.length cn, .slice ar rs.length cr] 81))) := sbox_of hN hR
  obtain ⟨g, off, aa, ca, ka, ck, rfl, m0, m1, m2, m3, m4, _, hZ⟩ := sNs_at S1.out.nod hi
  have bal : Below (W.alloc (.cells #[.slice (some ⟨g, off, none⟩) ns.length cn, .slice ar rs.length cr] 81)).heap.size (W.alloc (.cells #[.slice (some ⟨g, off, none⟩) ns.length cn, .slice ar rs.length cr] 81)) ((W.alloc (.cells #[.slice (some ⟨g, off, none⟩) ns.length cn, .slice ar rs.length cr] 81)).alloc (.cells #[.int .i64 ns[i].kind, .string ns[i].text, .slice aa ns[i].args.length ca, .string ns[i].bind, .slice ka ns[i].kids.length ck] 121)) := (Below.refl _ _).alloc (Nat.le_refl _) _
  have X2 := heap_alloc_new (W.alloc (.cells #[.slice (some ⟨g, off, none⟩) ns.length cn, .slice ar rs.length cr] 81)) (.cells #[.int .i64 ns[i].kind, .string ns[i].text, .slice aa ns[i].args.length ca, .string ns[i].bind, .slice ka ns[i].kids.length ck] 121)
  rw [show (W.alloc (.cells #[.slice (some ⟨g, off, none⟩) ns.length cn, .slice ar rs.length cr] 81)).heap.size = W.heap.size + 1 by simp] at X2
  have H2 : Hid (ShI ns rs W (some ⟨g, off, none⟩) ar cn cr ns[i].kind ns[i].text ns[i].bind aa ns[i].args.length ca ka ck ns[i].kids _) := ⟨S1.out.step bal, X2, hZ.below bal⟩
  have U2 : Hid (SRow ((W.alloc (.cells #[.slice (some ⟨g, off, none⟩) ns.length cn, .slice ar rs.length cr] 81)).alloc (.cells #[.int .i64 ns[i].kind, .string ns[i].text, .slice aa ns[i].args.length ca, .string ns[i].bind, .slice ka ns[i].kids.length ck] 121)) (.slice au known.length cu) known) := (hU.below S1.out.bel).below bal
  have c0 := run_cell (j := 0) S1.out.box rfl
  rw [h5] at H2 U2 m0
  have hk8 := (hS i hi).row h5
  have HK : Hid (∀ j (hj : j < ns[i].kids.length), ∃ z : Nat, ns[i].kids[j] = (z : Int) ∧ z < i ∧ ∃ hz : z < ns.length, ¬ ns[z].kind = 5) := fun j hj => by
    obtain ⟨z, e, hzi, hz, q, _, _⟩ := kid_lt hS hi hj
    exact ⟨z, e, hzi, hz, q h5⟩
  have HGL : Hid (∀ z (hz : z < ns.length), ¬ ns[z].kind ≤ 4 → ¬ ns[z].kind = 5 → (∃ a : Nat, groupS ns (z : Int) = (a : Int) ∧ a ≤ z ∧ ∃ ha : a < ns.length, ns[a].kind = 6) ∧ (ns[z].kind ≠ 6 → 0 < ns[z].kids.length)) := fun z hz h4 h5 => ⟨group_lt hS hz h4 h5, kid_some hS hz h4 h5⟩
  have HLf0 : Hid (LeafsIn ns) := hL
  have HIh : Hid (∀ z, z < i → AltKn ns rs z) := ih
  have i1 : (i : Int) < (ns.length : Int) := by omega
  clear hN hR hU hS ih h5 hL hZ bal X2 S1
  go_enter Try.func85, Try.ntmps85
  go_wp2
  generalize (W.alloc (.cells #[.slice (some ⟨g, off, none⟩) ns.length cn, .slice ar rs.length cr] 81)).alloc (.cells #[.int .i64 5, .string ns[i].text, .slice aa ns[i].args.length ca, .string ns[i].bind, .slice ka ns[i].kids.length ck] 121) = W2 at *
  go_loopg [2, 8] ns[i].kids.length (fun gg uv kv wr => ∃ (j : Nat) (kn : List ByteArray), kv = .int .i64 j ∧ gg + j = ns[i].kids.length ∧ knF ns rs (f - j) true (ns[i].kids.drop j) kn = knF ns rs f true ns[i].kids known ∧ kn.length ≤ 6 ∧ SRow wr uv kn ∧ ShI ns rs W (some ⟨g, off, none⟩) ar cn cr 5 ns[i].text ns[i].bind aa ns[i].args.length ca ka ck ns[i].kids wr)
  case atStart => exact ⟨0, known, rfl, by omega, rfl, hkn, U2.out, H2.out⟩
  case round =>
    obtain ⟨j, kn, rfl, hg, hE, hkl, hU, hS⟩ := hrel
    have HE : Hid (knF ns rs (f - j) true (ns[i].kids.drop j) kn = knF ns rs f true ns[i].kids known) := hE
    have HS : Hid (ShI ns rs W (some ⟨g, off, none⟩) ar cn cr 5 ns[i].text ns[i].bind aa ns[i].args.length ca ka ck ns[i].kids wr) := hS
    have HU : Hid (SRow wr u2 kn) := hU
    obtain ⟨au, cu, rfl⟩ := hU.slice
    have c0 := run_cell (j := 0) hS.s.box rfl
    have c1 := run_cell (j := 1) hS.s.box rfl
    have y4 := run_cell (j := 4) hS.x rfl
    clear hE hS hU H2 U2
    by_cases hj : j < ns[i].kids.length
    · obtain ⟨z, hz, hzi, hzl, hz5⟩ := HK.out j hj
      obtain ⟨kb, ko, rfl, hkc⟩ := HS.out.z.at hj
      obtain ⟨g', off', ya, yc, yk, yl, hgo, n0, n1, n2, n3, n4, hAr, _⟩ := sNs_at HS.out.s.nod hzl
      obtain ⟨rfl, rfl⟩ : g = g' ∧ off = off' := by cases hgo; exact ⟨rfl, rfl⟩
      have HAr : Hid (RowC 1 ExprE wr (.slice ya ns[z].args.length yc) ns[z].args) := hAr
      have i2 : (j : Int) < (ns[i].kids.length : Int) := by omega
      have d1 : decide ((j : Int) < (ns[i].kids.length : Int)) = true := decide_eq_true i2
      have i3 : (z : Int) < (ns.length : Int) := by omega
      obtain ⟨f', hf'⟩ : ∃ f', f - j = f' + 1 := ⟨f - j - 1, by omega⟩
      have HCons : Hid (knF ns rs f true ns[i].kids known = knF ns rs (f' + 1) true ((z : Int) :: ns[i].kids.drop (j + 1)) kn) := by rw [Hid, ← HE.out, hf', List.drop_eq_getElem_cons hj, hz]
      have HNx : Hid (f - (j + 1) = f') := by rw [Hid]; omega
      have hfz : 9 * z + 10 ≤ f' := by omega
      rw [hz] at hkc
      have bal : Below wr.heap.size wr (wr.alloc (.cells #[.int .i64 ns[z].kind, .string ns[z].text, .slice ya ns[z].args.length yc, .string ns[z].bind, .slice yk ns[z].kids.length yl] 121)) := (Below.refl _ _).alloc (Nat.le_refl _) _
      have Y3 := heap_alloc_new wr (.cells #[.int .i64 ns[z].kind, .string ns[z].text, .slice ya ns[z].args.length yc, .string ns[z].bind, .slice yk ns[z].kids.length yl] 121)
      have H3 : Hid (ShI ns rs W (some ⟨g, off, none⟩) ar cn cr 5 ns[i].text ns[i].bind aa ns[i].args.length ca (some ⟨kb, ko, none⟩) ck ns[i].kids (World.drew (wr.alloc (.cells #[.int .i64 ns[z].kind, .string ns[z].text, .slice ya ns[z].args.length yc, .string ns[z].bind, .slice yk ns[z].kids.length yl] 121)))) := ShI.step HS.out (bel_drewS bal)
      have U3 : Hid (SRow (World.drew (wr.alloc (.cells #[.int .i64 ns[z].kind, .string ns[z].text, .slice ya ns[z].args.length yc, .string ns[z].bind, .slice yk ns[z].kids.length yl] 121))) (.slice au kn.length cu) kn) := HU.out.below (bel_drewS bal)
      have A3 : Hid (RowC 1 ExprE (World.drew (wr.alloc (.cells #[.int .i64 ns[z].kind, .string ns[z].text, .slice ya ns[z].args.length yc, .string ns[z].bind, .slice yk ns[z].kids.length yl] 121))) (.slice ya ns[z].args.length yc) ns[z].args) := RowC.below ExprE_stable HAr.out (bel_drewS bal)
      have X3 : (World.drew (wr.alloc (.cells #[.int .i64 ns[z].kind, .string ns[z].text, .slice ya ns[z].args.length yc, .string ns[z].bind, .slice yk ns[z].kids.length yl] 121))).heap[wr.heap.size]? = some (.cells #[.int .i64 ns[z].kind, .string ns[z].text, .slice ya ns[z].args.length yc, .string ns[z].bind, .slice yk ns[z].kids.length yl] 121) := Y3
      have w1 : IntKind.i64.wrap ((j : Int) + 1) = ((j + 1 : Nat) : Int) := by rw [IntKind.wrap_i64]; omega
      obtain ⟨f2, rfl⟩ : ∃ f2, gk = f2 + 1 := ⟨gk - 1, by omega⟩
      have HX3 : Hid _ := X3
      clear hz HE hf' hf hAr hgo bal Y3 X3 HS HU HAr
      go_wp2
      go_region_held3 (fun V => V.cell? ⟨W.heap.size, 0, none⟩ = some (.slice (some ⟨g, off, none⟩) ns.length cn) ∧ V.cell? ⟨W.heap.size + 1, 4, none⟩ = some (.slice (some ⟨kb, ko, none⟩) ns[i].kids.length ck) ∧ V.cell? ⟨kb, ko + j, none⟩ = some (.int .i64 z) ∧ V.cell? ⟨g, off + z * 5, none⟩ = some (.int .i64 ns[z].kind) ∧ V.cell? ⟨g, off + z * 5 + 1, none⟩ = some (.string ns[z].text) ∧ V.cell? ⟨g, off + z * 5 + 2, none⟩ = some (.slice ya ns[z].args.length yc) ∧ V.cell? ⟨g, off + z * 5 + 3, none⟩ = some (.string ns[z].bind) ∧ V.cell? ⟨g, off + z * 5 + 4, none⟩ = some (.slice yk ns[z].kids.length yl))
        (go_keep)
        (fail)
      clear c0 c1 y4 n0 n1 n2 n3 n4
      generalize (World.drew (wr.alloc (.cells #[.int .i64 ns[z].kind, .string ns[z].text, .slice ya ns[z].args.length yc, .string ns[z].bind, .slice yk ns[z].kids.length yl] 121))) = W3 at *
      have c0 := run_cell (j := 0) H3.out.s.box rfl
      have c1 := run_cell (j := 1) H3.out.s.box rfl
      have y4 := run_cell (j := 4) H3.out.x rfl
      have z0 := run_cell (j := 0) HX3.out rfl
      have z1 := run_cell (j := 1) HX3.out rfl
      have z2 := run_cell (j := 2) HX3.out rfl
      have z3 := run_cell (j := 3) HX3.out rfl
      have z4 := run_cell (j := 4) HX3.out rfl
      obtain ⟨kb', ko', ek, hkc⟩ := H3.out.z.at hj
      obtain ⟨rfl, rfl⟩ : kb = kb' ∧ ko = ko' := by cases ek; exact ⟨rfl, rfl⟩
      clear ek
      have hz6 : symTot (leafS ns[z]) ≤ 1048576 ∧ ∀ e ∈ ns[z].args, NIn e := HLf0.out _ (List.getElem_mem _)
      by_cases h4 : ns[z].kind ≤ 4
      · have e4 : decide (ns[z].kind ≤ 4) = true := decide_eq_true h4
        have HLf : Hid (∀ V : World, _) := fun V => leaf_any ns[z].kind ns[z].text ns[z].bind ya ns[z].args.length yc yk ns[z].kids.length yl V
        have HPr : Hid (∀ V : World, Below W3.heap.size W3 V → _) := fun V hb => params_any ns rs (.slice (some ⟨g, off, none⟩) ns.length cn) (.slice ar rs.length cr) V ns[z].text (sNs_below H3.out.s.nod hb) (sRs_below H3.out.s.rul hb) hrl
        have HSm : Hid (∀ V : World, Below W3.heap.size W3 V → Calls Try.prog 44 #[.agg #[.int .i64 ns[z].kind, .string ns[z].text, .slice ya ns[z].args.length yc, .string ns[z].bind], .slice au kn.length cu, .int .i64 (parsS ns[z].text rs)] V fun e w' => ∃ o, e = .returned (.tuple #[o, .bool (symB (leafS ns[z]) kn (parsS ns[z].text rs)).2]) ∧ SRow w' o (symB (leafS ns[z]) kn (parsS ns[z].text rs)).1 ∧ Below V.heap.size V w') := fun V hb => l06Sym_any (.slice ya ns[z].args.length yc) (leafS ns[z]) (.slice au kn.length cu) kn (parsS ns[z].text rs) V hz6.1 hz6.2 (by omega) (RowC.below ExprE_stable A3.out hb) (U3.out.below hb)
        have HD : Hid (knF ns rs f true ns[i].kids known = ((symB (leafS ns[z]) kn (parsS ns[z].text rs)).2 && knF ns rs f' true (ns[i].kids.drop (j + 1)) (symB (leafS ns[z]) kn (parsS ns[z].text rs)).1)) := by rw [Hid, HCons.out, knF_leaf _ _ _ _ _ _ (by rw [nodeS_is hzl]; exact h4), nodeS_is hzl]
        have HLn : Hid ((symB (leafS ns[z]) kn (parsS ns[z].text rs)).2 = true → (symB (leafS ns[z]) kn (parsS ns[z].text rs)).1.length ≤ 6) := fun h => symB_len hkl h
        clear HCons h4 hz6 hz5
        generalize symB (leafS ns[z]) kn (parsS ns[z].text rs) = q at *
        obtain ⟨kn2, ok⟩ := q
        simp only at HSm HD HLn
        cases ok with
        | true =>
          have HY : Hid (knF ns rs (f - (j + 1)) true (ns[i].kids.drop (j + 1)) kn2 = knF ns rs f true ns[i].kids known) := by rw [Hid, HNx.out, HD.out, Bool.true_and]
          have hk2 : kn2.length ≤ 6 := HLn.out rfl
          clear HD HLn
          go_wp2
          go_region_held3 (fun V => V.cell? ⟨wr.heap.size, 0, none⟩ = some (.int .i64 ns[z].kind) ∧ V.cell? ⟨wr.heap.size, 1, none⟩ = some (.string ns[z].text) ∧ V.cell? ⟨wr.heap.size, 2, none⟩ = some (.slice ya ns[z].args.length yc) ∧ V.cell? ⟨wr.heap.size, 3, none⟩ = some (.string ns[z].bind) ∧ V.cell? ⟨wr.heap.size, 4, none⟩ = some (.slice yk ns[z].kids.length yl) ∧ V.cell? ⟨W.heap.size, 0, none⟩ = some (.slice (some ⟨g, off, none⟩) ns.length cn) ∧ V.cell? ⟨W.heap.size, 1, none⟩ = some (.slice ar rs.length cr))
            ((first | exact keep7s (by assumption) hb6 | exact keep7s (by assumption) hb5 | exact keep7s (by assumption) hb4 | go_keep))
            ((first
              | (go_at_call 44; refine (HSm.out _ ((bel_of_drew hb4).trans (hb5.mono hb4.size))).mono ?_; rintro e w6 ⟨o, rfl, ho, hb6⟩)
              | (go_at_call 93; refine (HPr.out _ (bel_of_drew hb4)).mono ?_; rintro e w5 ⟨rfl, hb5⟩)
              | (go_at_call 86; refine (HLf.out _).mono ?_; rintro e w4 ⟨rfl, hb4⟩)))
          have B6 : Hid (Below W3.heap.size W3 w6) := ((bel_of_drew hb4).trans (hb5.mono hb4.size)).trans (hb6.mono (Nat.le_trans hb4.size hb5.size))
          have HO : Hid (SRow w6 o kn2) := ho
          have HS6 : Hid (ShI ns rs W (some ⟨g, off, none⟩) ar cn cr 5 ns[i].text ns[i].bind aa ns[i].args.length ca (some ⟨kb, ko, none⟩) ck ns[i].kids w6) := ShI.step H3.out B6.out
          obtain ⟨ao, co, rfl⟩ := HO.out.slice
          clear hb4 hb5 hb6 ho HLf HPr HSm
          go_wp2
          go_roundg f2
          case measure => omega
          case rel => exact ⟨j + 1, kn2, by go_num, by omega, HY.out, by omega, HO.out, HS6.out⟩
        | false =>
          have HV : Hid (knF ns rs f true ns[i].kids known = false) := by rw [Hid, HD.out, Bool.false_and]
          clear HD HLn
          go_wp2
          go_region_held3 (fun V => V.cell? ⟨wr.heap.size, 0, none⟩ = some (.int .i64 ns[z].kind) ∧ V.cell? ⟨wr.heap.size, 1, none⟩ = some (.string ns[z].text) ∧ V.cell? ⟨wr.heap.size, 2, none⟩ = some (.slice ya ns[z].args.length yc) ∧ V.cell? ⟨wr.heap.size, 3, none⟩ = some (.string ns[z].bind) ∧ V.cell? ⟨wr.heap.size, 4, none⟩ = some (.slice yk ns[z].kids.length yl) ∧ V.cell? ⟨W.heap.size, 0, none⟩ = some (.slice (some ⟨g, off, none⟩) ns.length cn) ∧ V.cell? ⟨W.heap.size, 1, none⟩ = some (.slice ar rs.length cr))
            ((first | exact keep7s (by assumption) hb6 | exact keep7s (by assumption) hb5 | exact keep7s (by assumption) hb4 | go_keep))
            ((first
              | (go_at_call 44; refine (HSm.out _ ((bel_of_drew hb4).trans (hb5.mono hb4.size))).mono ?_; rintro e w6 ⟨o, rfl, ho, hb6⟩)
              | (go_at_call 93; refine (HPr.out _ (bel_of_drew hb4)).mono ?_; rintro e w5 ⟨rfl, hb5⟩)
              | (go_at_call 86; refine (HLf.out _).mono ?_; rintro e w4 ⟨rfl, hb4⟩)))
          have B6 : Hid (Below W3.heap.size W3 w6) := ((bel_of_drew hb4).trans (hb5.mono hb4.size)).trans (hb6.mono (Nat.le_trans hb4.size hb5.size))
          have HO : Hid (SRow w6 o kn2) := ho
          have HS6 : Hid (ShI ns rs W (some ⟨g, off, none⟩) ar cn cr 5 ns[i].text ns[i].bind aa ns[i].args.length ca (some ⟨kb, ko, none⟩) ck ns[i].kids w6) := ShI.step H3.out B6.out
          obtain ⟨ao, co, rfl⟩ := HO.out.slice
          clear hb4 hb5 hb6 ho HLf HPr HSm
          go_wp2
          go_ret
          rw [HV.out]
          exact ⟨rfl, HS6.out.s.bel⟩
      · have e4 : decide (ns[z].kind ≤ 4) = false := decide_eq_false h4
        obtain ⟨⟨a, hga, haz, hal, ha6⟩, hk0⟩ := HGL.out z hzl (by omega) (by omega)
        have HGr : Hid (∀ V : World, Below W3.heap.size W3 V → Calls Try.prog 89 #[.agg #[(.slice (some ⟨g, off, none⟩) ns.length cn), .slice ar rs.length cr], .int .i64 z] V fun e w' => e = .returned (.int .i64 (a : Int)) ∧ Below V.heap.size V w') := fun V hb => by
          have := group_any ns rs (.slice (some ⟨g, off, none⟩) ns.length cn) (.slice ar rs.length cr) V z (sNs_below H3.out.s.nod hb) (sRs_below H3.out.s.rul hb) hzl hk0
          rw [hga] at this
          exact this
        have HAl : Hid (∀ V : World, Below W3.heap.size W3 V → _) := fun V hb => HIh.out a (by omega) f' (.slice (some ⟨g, off, none⟩) ns.length cn) (.slice ar rs.length cr) (.slice au kn.length cu) kn V hal (by omega) ha6 hkl (sNs_below H3.out.s.nod hb) (sRs_below H3.out.s.rul hb) (U3.out.below hb)
        have HD : Hid (knF ns rs f true ns[i].kids known = (knF ns rs f' false ns[a].kids kn && knF ns rs f' true (ns[i].kids.drop (j + 1)) kn)) := by rw [Hid, HCons.out, knF_group _ _ _ _ _ _ (by rw [nodeS_is hzl]; exact h4), hga, nodeS_is hal]
        clear HCons h4 hz6 hz5 hga haz ha6 hk0
        cases hq : knF ns rs f' false ns[a].kids kn with
        | true =>
          rw [hq] at HD HAl
          have HY : Hid (knF ns rs (f - (j + 1)) true (ns[i].kids.drop (j + 1)) kn = knF ns rs f true ns[i].kids known) := by rw [Hid, HNx.out, HD.out, Bool.true_and]
          clear HD hq
          go_wp2
          go_region_held3 (fun V => V.cell? ⟨W.heap.size, 0, none⟩ = some (.slice (some ⟨g, off, none⟩) ns.length cn) ∧ V.cell? ⟨W.heap.size, 1, none⟩ = some (.slice ar rs.length cr) ∧ V.cell? ⟨W.heap.size + 1, 4, none⟩ = some (.slice (some ⟨kb, ko, none⟩) ns[i].kids.length ck) ∧ V.cell? ⟨kb, ko + j, none⟩ = some (.int .i64 z))
            ((first | exact keep4 (by assumption) hb5 | exact keep4 (by assumption) hb4 | go_keep))
            ((first
              | (go_at_call 72; refine (HAl.out _ (bel_of_drew hb4)).mono ?_; rintro e w5 ⟨rfl, hb5⟩)
              | (go_at_call 89; refine (HGr.out _ (bel_drewS (Below.refl _ _))).mono ?_; rintro e w4 ⟨rfl, hb4⟩)))
          have B5 : Hid (Below W3.heap.size W3 w5) := (bel_of_drew hb4).trans (hb5.mono hb4.size)
          have HS6 : Hid (ShI ns rs W (some ⟨g, off, none⟩) ar cn cr 5 ns[i].text ns[i].bind aa ns[i].args.length ca (some ⟨kb, ko, none⟩) ck ns[i].kids w5) := ShI.step H3.out B5.out
          have HU6 : Hid (SRow w5 (.slice au kn.length cu) kn) := U3.out.below B5.out
          clear hb4 hb5 HAl HGr
          go_wp2
          go_roundg f2
          case measure => omega
          case rel => exact ⟨j + 1, kn, by go_num, by omega, HY.out, by omega, HU6.out, HS6.out⟩
        | false =>
          rw [hq] at HD HAl
          have HV : Hid (knF ns rs f true ns[i].kids known = false) := by rw [Hid, HD.out, Bool.false_and]
          clear HD hq
          go_wp2
          go_region_held3 (fun V => V.cell? ⟨W.heap.size, 0, none⟩ = some (.slice (some ⟨g, off, none⟩) ns.length cn) ∧ V.cell? ⟨W.heap.size, 1, none⟩ = some (.slice ar rs.length cr) ∧ V.cell? ⟨W.heap.size + 1, 4, none⟩ = some (.slice (some ⟨kb, ko, none⟩) ns[i].kids.length ck) ∧ V.cell? ⟨kb, ko + j, none⟩ = some (.int .i64 z))
            ((first | exact keep4 (by assumption) hb5 | exact keep4 (by assumption) hb4 | go_keep))
            ((first
              | (go_at_call 72; refine (HAl.out _ (bel_of_drew hb4)).mono ?_; rintro e w5 ⟨rfl, hb5⟩)
              | (go_at_call 89; refine (HGr.out _ (bel_drewS (Below.refl _ _))).mono ?_; rintro e w4 ⟨rfl, hb4⟩)))
          have B5 : Hid (Below W3.heap.size W3 w5) := (bel_of_drew hb4).trans (hb5.mono hb4.size)
          have HS6 : Hid (ShI ns rs W (some ⟨g, off, none⟩) ar cn cr 5 ns[i].text ns[i].bind aa ns[i].args.length ca (some ⟨kb, ko, none⟩) ck ns[i].kids w5) := ShI.step H3.out B5.out
          have HU6 : Hid (SRow w5 (.slice au kn.length cu) kn) := U3.out.below B5.out
          clear hb4 hb5 HAl HGr
          go_wp2
          go_ret
          rw [HV.out]
          exact ⟨rfl, HS6.out.s.bel⟩
    · have d1 : decide ((j : Int) < (ns[i].kids.length : Int)) = false := decide_eq_false (by omega)
      have HV : Hid (knF ns rs f true ns[i].kids known = true) := by rw [Hid, ← HE.out, List.drop_of_length_le (by omega), knF_nil]
      clear HE
      go_wp2
      go_ret
      rw [HV.out]
      exact ⟨rfl, HS.out.s.bel⟩

theorem all_kn (ns : List SNodeD) (rs : List SRuleD) (hS : Shaped ns) (hL : LeafsIn ns) (hl : ns.length ≤ 100000) (hrl : rs.length ≤ 100000) : ∀ i, RowKn ns rs i ∧ AltKn ns rs i := by
  intro i
  induction i using Nat.strongRecOn with
  | ind i ih => exact ⟨row_kn ns rs hS hL hl hrl i (fun z hz => (ih z hz).2), alt_kn ns rs hS hl i (fun z hz => (ih z hz).1)⟩

end Go.Proofs.Ytipkbkhnaekceaa

namespace Go.Proofs.Ytipkbkhnaekceaa
open Go.RowKit
set_option linter.unusedVariables false

theorem addU_len (us : List Int) (k : Int) : (addU us k).length = us.length := by rw [addU, List.length_modify]
def BdU (us : List Int) (m : Int) : Prop := ∀ u ∈ us, 0 ≤ u ∧ u ≤ m
theorem addU_bd {us : List Int} {m : Int} (h : BdU us m) (k : Int) : BdU (addU us k) (m + 1) := fun u hu => by
  obtain ⟨i, hi, rfl⟩ := List.getElem_of_mem hu
  have hi' : i < us.length := by rw [addU_len] at hi; exact hi
  have e : (addU us k)[i] = if k.toNat = i then us[i] + 1 else us[i] := by simp only [addU, List.getElem_modify]
  have := h us[i] (List.getElem_mem _)
  rw [e]
  split <;> omega
theorem bdU_mono {us : List Int} {m m' : Int} (h : BdU us m) (hm : m ≤ m') : BdU us m' := fun u hu => by
  have := h u hu
  omega
theorem bdU_zero (n : Nat) : BdU (List.replicate n 0) 0 := fun u hu => by
  rw [List.eq_of_mem_replicate hu]
  omega
theorem zv_addU (us : List Int) (z : Nat) (hz : z < us.length) : zv (addU us (z : Int)) = (zv us).set z (.int .i64 (us[z] + 1)) := by
  simp only [addU, Int.toNat_natCast]
  apply List.ext_getElem
  · simp [zv]
  · intro i h1 h2
    simp only [zv, List.getElem_map, List.getElem_set, List.getElem_modify]
    split <;> simp_all
theorem foldl_next {α β : Type} (f : β → α → β) (b : β) (xs : List α) (k : Nat) (h : k < xs.length) : (xs.take (k + 1)).foldl f b = f ((xs.take k).foldl f b) xs[k] := by
  rw [List.take_succ_eq_append_getElem h, List.foldl_append]; rfl
theorem range_all_next (p : Nat → Bool) (k : Nat) : (List.range (k + 1)).all p = ((List.range k).all p && p k) := by
  rw [List.range_succ, List.all_append]; simp
theorem range_all_no {p : Nat → Bool} {k n : Nat} (h : k < n) (hp : p k = false) : (List.range n).all p = false := by
  rw [List.all_eq_false]
  exact ⟨k, List.mem_range.2 h, by rw [hp]; decide⟩
theorem getD_lt {α : Type} [Inhabited α] (xs : List α) (i : Nat) (h : i < xs.length) : xs.getD i default = xs[i] := by
  rw [List.getD_eq_getElem?_getD, List.getElem?_eq_getElem h]; rfl
theorem all_take_next {α : Type} (p : α → Bool) (xs : List α) (k : Nat) (h : k < xs.length) : (xs.take (k + 1)).all p = ((xs.take k).all p && p xs[k]) := by
  rw [List.take_succ_eq_append_getElem h, List.all_append]; simp
theorem all_no {α : Type} {p : α → Bool} {xs : List α} {k : Nat} (h : k < xs.length) (hp : p xs[k] = false) : xs.all p = false := by
  rw [List.all_eq_false]
  exact ⟨xs[k], List.getElem_mem _, by rw [hp]; decide⟩

section
variable {ns : List SNodeD} {rs : List SRuleD}
theorem form_size (h : ¬ ns.length ≤ 120) : formB ns rs = false := by rw [formB, decide_eq_false h]; rfl
theorem form_rules (h : ¬ (1 ≤ rs.length ∧ rs.length ≤ 8)) : formB ns rs = false := by rw [formB, decide_eq_false h]; simp
theorem form_shape {i : Nat} (hi : i < ns.length) (h : shapeS ns i ns[i] = false) : formB ns rs = false := by
  rw [formB, range_all_no (p := fun i => shapeS ns i (ns.getD i default)) hi (by show _ = _; rw [getD_lt _ _ hi]; exact h)]; simp
theorem form_rule {i : Nat} (hi : i < rs.length) (h : ruleS ns rs i rs[i] = false) : formB ns rs = false := by
  rw [formB, range_all_no (n := rs.length) (p := fun i => ruleS ns rs i (rs.getD i default)) hi (by show _ = _; rw [getD_lt _ _ hi]; exact h)]; simp
theorem form_uses {us : List Int} (hu : us = usesR (usesN (List.replicate ns.length 0) ns) rs) {k : Nat} (hk : k < us.length) (h : ¬ us[k] = 1) : formB ns rs = false := by
  rw [formB, ← hu, all_no (p := fun u => decide (u = 1)) hk (decide_eq_false h)]; simp
theorem form_known {i : Nat} (hi : i < rs.length) (h : knF ns rs fuelK false (nodeS ns rs[i].body).kids rs[i].params = false) : formB ns rs = false := by
  rw [formB, all_no (p := fun r : SRuleD => knF ns rs fuelK false (nodeS ns r.body).kids r.params) hi h]; simp
theorem form_yes (h1 : ns.length ≤ 120) (h2 : 1 ≤ rs.length ∧ rs.length ≤ 8) (h3 : (List.range ns.length).all (fun i => shapeS ns i (ns.getD i default)) = true) (h4 : (List.range rs.length).all (fun i => ruleS ns rs i (rs.getD i default)) = true) (h5 : (usesR (usesN (List.replicate ns.length 0) ns) rs).all (fun u => decide (u = 1)) = true) (h6 : rs.all (fun r => knF ns rs fuelK false (nodeS ns r.body).kids r.params) = true) : formB ns rs = true := by
  rw [formB, decide_eq_true h1, decide_eq_true h2, h3, h4, h5, h6]; rfl
theorem shaped_of (h3 : (List.range ns.length).all (fun i => shapeS ns i (ns.getD i default)) = true) : Shaped ns := fun i hi => by
  have := List.all_eq_true.1 h3 i (List.mem_range.2 hi)
  rw [getD_lt _ _ hi] at this
  exact shF_of this
theorem rules_of (h4 : (List.range rs.length).all (fun i => ruleS ns rs i (rs.getD i default)) = true) (i : Nat) (hi : i < rs.length) : ruleS ns rs i rs[i] = true := by
  have := List.all_eq_true.1 h4 i (List.mem_range.2 hi)
  rwa [getD_lt _ _ hi] at this
end

end Go.Proofs.Ytipkbkhnaekceaa
