/- The specification's l12Make.row (printed by mk/flr.py). -/
import Derived.Test.YtipkbkhnaekceaaFlG0
import Derived.Test.YtipkbkhnaekceaaSfS
import Derived.Test.YtipkbkhnaekceaaDec
import Derived.Deep.RegionHeld3
import Derived.Deep.RegionLaw
import Derived.Lib.ItoaLen
import Derived.Deep.CutRange
namespace Go.Proofs.Ytipkbkhnaekceaa
open Go.RowKit
set_option linter.unusedVariables false

theorem rowK_leaf (ns : List SNodeD) (m : MkD) (kn : List ByteArray) (out : List SymD) (k : Int) (ks : List Int) (h : (nodeS ns k).kind ≤ 4) : rowK ns m kn out (k :: ks) = rowK ns m (if (nodeS ns k).bind = em then kn else putS kn (nodeS ns k).bind) (out ++ [leafS (nodeS ns k)]) ks := by rw [rowK, if_pos h]
theorem rowK_group (ns : List SNodeD) (m : MkD) (kn : List ByteArray) (out : List SymD) (k : Int) (ks : List Int) (h : ¬ (nodeS ns k).kind ≤ 4) : rowK ns m kn out (k :: ks) = rowK ns { rules := m.rules ++ [⟨xName m.count, kn, []⟩], queue := m.queue ++ [(k, m.rules.length, kn)], count := m.count + 1 } kn (out ++ [⟨3, xName m.count, kn.map varE, em⟩]) ks := by rw [rowK, if_neg h]
theorem symB_known {x : SymD} {kn : List ByteArray} {q : Int} (h : (symB x kn q).2 = true) : (symB x kn q).1 = if x.bind = em then kn else putS kn x.bind := by
  have en : noS = em := rfl
  unfold symB at h ⊢
  split at h
  · simp only [Bool.and_eq_true, decide_eq_true_eq] at h
    simp [*]
  · split at h
    · simp only [Bool.and_eq_true, decide_eq_true_eq] at h
      simp [*]
    · split at h
      · simp only [Bool.and_eq_true, decide_eq_true_eq] at h
        simp [*]
      · split at h
        · split at h
          · split at h
            · simp_all
            · simp_all
          · simp at h
        · simp at h
theorem Try.infoSymF : (Try.prog.info? 51).map (fun i => (i.zero, i.size, i.bytes)) = some (some (.agg #[.int .i64 0, .string ⟨#[]⟩, .slice none 0 0, .string ⟨#[]⟩]), 4, 64) := by kernel_rfl
theorem four_symF (a : Int) (s t : ByteArray) (o : Option Addr) (l c : Nat) : ∀ u ∈ [Value.int .i64 a, .string s, .slice o l c, .string t], u.oneCell' = true := by
  intro u hu
  simp only [List.mem_cons, List.not_mem_nil, or_false] at hu
  rcases hu with rfl | rfl | rfl | rfl <;> rfl
theorem Try.infoRuleF : (Try.prog.info? 40).map (fun i => (i.zero, i.size, i.bytes)) = some (some (.agg #[.string ⟨#[]⟩, .slice none 0 0, .slice none 0 0]), 3, 64) := by kernel_rfl
theorem three_ruleF (s : ByteArray) (o o' : Option Addr) (l c l' c' : Nat) : ∀ u ∈ [Value.string s, .slice o l c, .slice o' l' c'], u.oneCell' = true := by
  intro u hu
  simp only [List.mem_cons, List.not_mem_nil, or_false] at hu
  rcases hu with rfl | rfl | rfl <;> rfl
theorem Try.infoGrpF : (Try.prog.info? 133).map (fun i => (i.zero, i.size, i.bytes)) = some (some (.agg #[.int .i64 0, .int .i64 0, .slice none 0 0]), 3, 40) := by kernel_rfl
theorem three_grpF (a b : Int) (o : Option Addr) (l c : Nat) : ∀ u ∈ [Value.int .i64 a, .int .i64 b, .slice o l c], u.oneCell' = true := by
  intro u hu
  simp only [List.mem_cons, List.not_mem_nil, or_false] at hu
  rcases hu with rfl | rfl | rfl <;> rfl

set_option maxHeartbeats 25600000 in
set_option maxRecDepth 100000 in
theorem rowM_any (A : Nat → Prop) (ns : List SNodeD) (rs : List SRuleD) (hS : Shaped ns) (hL : LeafsIn ns) (hl : ns.length ≤ 100000) (an ar : Option Addr) (cn cr p : Nat) (W0 : World) (hN : SNs W0 (.slice an ns.length cn) ns) (m : MkD) (gv qv u : Value) (known : List ByteArray) (w : World) (i : Nat) (hi : i < ns.length) (h5 : ns[i].kind = 5) (f : Nat) (hf : 9 * i + 10 ≤ f) (hkn : known.length ≤ 6) (hkf : knF ns rs f true ns[i].kids known = true)
    (hA : ∀ k, A k → k < w.heap.size) (hM : MkI A ns rs an ar cn cr W0.heap.size p W0 m gv qv w) (hK : Held (MutA A p gv qv) w (fun V => SRow V u known)) (hb1 : m.rules.length ≤ 5000) (hb2 : m.queue.length ≤ 5000) (hb3 : m.count ≤ 5000) :
    Calls Try.prog 74 #[.pointer (some ⟨p, 0, none⟩), .int .i64 i, u] w fun e w' => ∃ o gv' qv' : Value, e = .returned o ∧ MkI A ns rs an ar cn cr W0.heap.size p W0 (rowK ns m known [] ns[i].kids).1 gv' qv' w' ∧ Held (fun k => k < w.heap.size ∨ Mut p gv' qv' k) w' (fun V => RowC 4 SymE V o (rowK ns m known [] ns[i].kids).2) ∧ FrA (Mut p gv qv) w w' ∧ ∀ k, k < w.heap.size → Mut p gv' qv' k → Mut p gv qv k := by
  obtain ⟨s0, hs, hs0, hs1, hs2⟩ := info_parts Try.infoSymF
  obtain ⟨r0, hr, hr0, hr1, hr2⟩ := info_parts Try.infoRuleF
  obtain ⟨q0, hq, hq0, hq1, hq2⟩ := info_parts Try.infoGrpF
  obtain ⟨t0, ht, ht0, ht1, ht2⟩ := info_parts Try.infoStr
  obtain ⟨au, cu, rfl⟩ := hK.here.slice
  have HN : Hid (SNs W0 (.slice an ns.length cn) ns) := hN
  have HA0 : Hid (∀ k, A k → k < w.heap.size) := hA
  have hBw : W0.heap.size ≤ w.heap.size := hM.lt
  obtain ⟨g, off, aa, ca, ka, ck, hgo, m0w, m1w, m2w, m3w, m4w, _, hZ⟩ := sNs_at hN hi
  subst hgo
  have HZ0 : Hid (IRow W0 (.slice ka ns[i].kids.length ck) ns[i].kids) := hZ
  have m0 := cell_keep m0w hM.bel
  have m1 := cell_keep m1w hM.bel
  have m2 := cell_keep m2w hM.bel
  have m3 := cell_keep m3w hM.bel
  have m4 := cell_keep m4w hM.bel
  have c0 := run_cell (j := 0) hM.box rfl
  have hpl := (Array.getElem?_eq_some_iff.1 hM.box).1
  have c0a : (w.alloc (.cells #[] 51)).cell? ⟨p, 0, none⟩ = some (.slice (some ⟨g, off, none⟩) ns.length cn) := cell_keep c0 ((Below.refl _ _).alloc (Nat.le_refl _) _)
  have balA : Below w.heap.size w (w.alloc (.cells #[] 51)) := (Below.refl _ _).alloc (Nat.le_refl _) _
  have m0a := cell_keep m0 balA
  have m1a := cell_keep m1 balA
  have m2a := cell_keep m2 balA
  have m3a := cell_keep m3 balA
  have m4a := cell_keep m4 balA
  have bal : Below w.heap.size w ((w.alloc (.cells #[] 51)).alloc (.cells #[.int .i64 ns[i].kind, .string ns[i].text, .slice aa ns[i].args.length ca, .string ns[i].bind, .slice ka ns[i].kids.length ck] 121)) := balA.alloc balA.size _
  have X2 := heap_alloc_new (w.alloc (.cells #[] 51)) (.cells #[.int .i64 ns[i].kind, .string ns[i].text, .slice aa ns[i].args.length ca, .string ns[i].bind, .slice ka ns[i].kids.length ck] 121)
  rw [show (w.alloc (.cells #[] 51)).heap.size = w.heap.size + 1 by simp] at X2
  have off0 : ∀ k, k < w.heap.size → AO A (.slice (some ⟨w.heap.size, 0, none⟩) 0 0) k → A k := fun k hk a => a.elim id (fun e => by
    have : w.heap.size = k := Option.some.inj e
    omega)
  have I0 : Hid (RwI A ns rs (some ⟨g, off, none⟩) ar cn cr W0.heap.size p W0 w gv qv #[.int .i64 ns[i].kind, .string ns[i].text, .slice aa ns[i].args.length ca, .string ns[i].bind, .slice ka ns[i].kids.length ck] m gv qv (.slice (some ⟨w.heap.size, 0, none⟩) 0 0) (.slice au known.length cu) [] known ((w.alloc (.cells #[] 51)).alloc (.cells #[.int .i64 ns[i].kind, .string ns[i].text, .slice aa ns[i].args.length ca, .string ns[i].bind, .slice ka ns[i].kids.length ck] 121))) :=
    ⟨(hM.away (fun k hk a => .inl (off0 k hk a))).step bal, RowH.below (RowO.made (Nat.le_refl _)) ((Below.refl _ _).alloc (Nat.le_refl _) _), (hK.away (fun k hk a => a.imp (off0 k hk) id)).fr (FrA.below bal), X2, FrA.below bal, fun _ _ a => a⟩
  have i1 : (i : Int) < (ns.length : Int) := by omega
  have hk8 := (hS i hi).row h5
  have HK : Hid (∀ j (hj : j < ns[i].kids.length), ∃ z : Nat, ns[i].kids[j] = (z : Int) ∧ z < i ∧ ∃ hz : z < ns.length, ¬ ns[z].kind = 5) := fun j hj => by
    obtain ⟨z, e, hzi, hz, q, _, _⟩ := kid_lt hS hi hj
    exact ⟨z, e, hzi, hz, q h5⟩
  have HLf0 : Hid (LeafsIn ns) := hL
  have HKF0 : Hid (knF ns rs f true ns[i].kids known = true) := hkf
  clear hN hM hK hA hS hL hkf h5 hZ bal balA X2 off0 c0 m0 m1 m2 m3 m4 m0w m1w m2w m3w m4w
  go_enter Try.func74, Try.ntmps74
  go_wp2
  generalize (w.alloc (.cells #[] 51)).alloc (.cells #[.int .i64 ns[i].kind, .string ns[i].text, .slice aa ns[i].args.length ca, .string ns[i].bind, .slice ka ns[i].kids.length ck] 121) = W2 at *
  clear c0a m0a m1a m2a m3a m4a
  go_loopg [2, 7, 9] ns[i].kids.length (fun gg uv ov kv wr => ∃ (j : Nat) (kn : List ByteArray) (m1 : MkD) (gv1 qv1 : Value) (ao : Option Addr) (co : Nat) (outl : List SymD), kv = .int .i64 j ∧ ov = .slice ao j co ∧ gg + j = ns[i].kids.length ∧ rowK ns m1 kn outl (ns[i].kids.drop j) = rowK ns m known [] ns[i].kids ∧ kn.length ≤ 6 ∧ knF ns rs (f - j) true (ns[i].kids.drop j) kn = true ∧ outl.length = j ∧ m1.rules.length ≤ 5000 + j ∧ m1.queue.length ≤ 5000 + j ∧ m1.count ≤ 5000 + j ∧ RwI A ns rs (some ⟨g, off, none⟩) ar cn cr W0.heap.size p W0 w gv qv #[.int .i64 ns[i].kind, .string ns[i].text, .slice aa ns[i].args.length ca, .string ns[i].bind, .slice ka ns[i].kids.length ck] m1 gv1 qv1 (.slice ao j co) uv outl kn wr)
  case atStart => exact ⟨0, known, m, gv, qv, _, _, [], rfl, rfl, by omega, rfl, hkn, HKF0.out, rfl, by omega, by omega, by omega, I0.out⟩
  case round =>
    obtain ⟨j, kn, m1, gv1, qv1, ao, co, outl, rfl, rfl, hg, hE, hkl, hkf, hol, hm1, hm2, hm3, hI⟩ := hrel
    have HE : Hid (rowK ns m1 kn outl (ns[i].kids.drop j) = rowK ns m known [] ns[i].kids) := hE
    have HKf : Hid (knF ns rs (f - j) true (ns[i].kids.drop j) kn = true) := hkf
    have HOL : Hid (outl.length = j) := hol
    have HI : Hid (RwI A ns rs (some ⟨g, off, none⟩) ar cn cr W0.heap.size p W0 w gv qv #[.int .i64 ns[i].kind, .string ns[i].text, .slice aa ns[i].args.length ca, .string ns[i].bind, .slice ka ns[i].kids.length ck] m1 gv1 qv1 (.slice ao j co) u2 outl kn wr) := hI
    obtain ⟨au, cu, rfl⟩ := hI.kno.here.slice
    have y4 := run_cell (j := 4) hI.xb rfl
    clear hE hkf hI I0 hol
    by_cases hj : j < ns[i].kids.length
    · obtain ⟨z, hz, hzi, hzl, hz5⟩ := HK.out j hj
      obtain ⟨kb, ko, rfl, hkc⟩ := (HZ0.out.below HI.out.mki.bel).at hj
      obtain ⟨g', off', ya, yc, yk, yl, hgo, n0, n1, n2, n3, n4, hAr, _⟩ := sNs_at (sNs_below HN.out HI.out.mki.bel) hzl
      obtain ⟨rfl, rfl⟩ : g = g' ∧ off = off' := by cases hgo; exact ⟨rfl, rfl⟩
      have HAr : Hid (RowC 1 ExprE wr (.slice ya ns[z].args.length yc) ns[z].args) := hAr
      have b0 := run_cell (j := 0) HI.out.mki.box rfl
      have hsz3 : w.heap.size ≤ wr.heap.size := HI.out.fr.size
      have HOv : Hid (∀ k, (Value.slice ao j co).ownBlock = some k → k < wr.heap.size) := fun k hk => (RowO.lt HI.out.out k hk).2
      have i2 : (j : Int) < (ns[i].kids.length : Int) := by omega
      have d1 : decide ((j : Int) < (ns[i].kids.length : Int)) = true := decide_eq_true i2
      have i3 : (z : Int) < (ns.length : Int) := by omega
      obtain ⟨f', hf'⟩ : ∃ f', f - j = f' + 1 := ⟨f - j - 1, by omega⟩
      have HCons : Hid (rowK ns m known [] ns[i].kids = rowK ns m1 kn outl ((z : Int) :: ns[i].kids.drop (j + 1))) := by rw [Hid, ← HE.out, List.drop_eq_getElem_cons hj, hz]
      have HKc : Hid (knF ns rs (f' + 1) true ((z : Int) :: ns[i].kids.drop (j + 1)) kn = true) := by
        have h := HKf.out
        rw [hf', List.drop_eq_getElem_cons hj, hz] at h
        exact h
      have HNx : Hid (f - (j + 1) = f') := by rw [Hid]; omega
      rw [hz] at hkc
      have bal : Below wr.heap.size wr (wr.alloc (.cells #[.int .i64 ns[z].kind, .string ns[z].text, .slice ya ns[z].args.length yc, .string ns[z].bind, .slice yk ns[z].kids.length yl] 121)) := (Below.refl _ _).alloc (Nat.le_refl _) _
      have HX3 : Hid ((World.drew (wr.alloc (.cells #[.int .i64 ns[z].kind, .string ns[z].text, .slice ya ns[z].args.length yc, .string ns[z].bind, .slice yk ns[z].kids.length yl] 121))).heap[wr.heap.size]? = some (.cells #[.int .i64 ns[z].kind, .string ns[z].text, .slice ya ns[z].args.length yc, .string ns[z].bind, .slice yk ns[z].kids.length yl] 121)) := heap_alloc_new wr (.cells #[.int .i64 ns[z].kind, .string ns[z].text, .slice ya ns[z].args.length yc, .string ns[z].bind, .slice yk ns[z].kids.length yl] 121)
      have R3 : Hid (RwI A ns rs (some ⟨g, off, none⟩) ar cn cr W0.heap.size p W0 w gv qv #[.int .i64 ns[i].kind, .string ns[i].text, .slice aa ns[i].args.length ca, .string ns[i].bind, .slice (some ⟨kb, ko, none⟩) ns[i].kids.length ck] m1 gv1 qv1 (.slice ao j co) (.slice au kn.length cu) outl kn (World.drew (wr.alloc (.cells #[.int .i64 ns[z].kind, .string ns[z].text, .slice ya ns[z].args.length yc, .string ns[z].bind, .slice yk ns[z].kids.length yl] 121)))) := HI.out.step (bel_drewS bal)
      have A3 : Hid (RowC 1 ExprE (World.drew (wr.alloc (.cells #[.int .i64 ns[z].kind, .string ns[z].text, .slice ya ns[z].args.length yc, .string ns[z].bind, .slice yk ns[z].kids.length yl] 121))) (.slice ya ns[z].args.length yc) ns[z].args) := RowC.below ExprE_stable HAr.out (bel_drewS bal)
      have w1 : IntKind.i64.wrap ((j : Int) + 1) = ((j + 1 : Nat) : Int) := by rw [IntKind.wrap_i64]; omega
      obtain ⟨f2, rfl⟩ : ∃ f2, gk = f2 + 1 := ⟨gk - 1, by omega⟩
      have hz6 : symTot (leafS ns[z]) ≤ 1048576 ∧ ∀ e ∈ ns[z].args, NIn e := HLf0.out _ (List.getElem_mem _)
      have HZZ : Hid (ns[i].kids[j] = (z : Int)) := hz
      clear hz HE hf' hAr hgo bal HI HAr HKf
      go_wp2
      go_region_held3 (fun V => V.cell? ⟨p, 0, none⟩ = some (.slice (some ⟨g, off, none⟩) ns.length cn) ∧ V.cell? ⟨w.heap.size + 1, 4, none⟩ = some (.slice (some ⟨kb, ko, none⟩) ns[i].kids.length ck) ∧ V.cell? ⟨kb, ko + j, none⟩ = some (.int .i64 z) ∧ V.cell? ⟨g, off + z * 5, none⟩ = some (.int .i64 ns[z].kind) ∧ V.cell? ⟨g, off + z * 5 + 1, none⟩ = some (.string ns[z].text) ∧ V.cell? ⟨g, off + z * 5 + 2, none⟩ = some (.slice ya ns[z].args.length yc) ∧ V.cell? ⟨g, off + z * 5 + 3, none⟩ = some (.string ns[z].bind) ∧ V.cell? ⟨g, off + z * 5 + 4, none⟩ = some (.slice yk ns[z].kids.length yl))
        (go_keep)
        (fail)
      clear y4 n0 n1 n2 n3 n4 b0
      generalize hW3 : (World.drew (wr.alloc (.cells #[.int .i64 ns[z].kind, .string ns[z].text, .slice ya ns[z].args.length yc, .string ns[z].bind, .slice yk ns[z].kids.length yl] 121))) = W3 at *
      have hs3 : wr.heap.size < W3.heap.size := (Array.getElem?_eq_some_iff.1 HX3.out).1
      clear hW3
      have z0 := run_cell (j := 0) HX3.out rfl
      have z1 := run_cell (j := 1) HX3.out rfl
      have z2 := run_cell (j := 2) HX3.out rfl
      have z3 := run_cell (j := 3) HX3.out rfl
      have z4 := run_cell (j := 4) HX3.out rfl
      by_cases h4 : ns[z].kind ≤ 4
      · have e4 : decide (ns[z].kind ≤ 4) = true := decide_eq_true h4
        have HLf : Hid (∀ V : World, _) := fun V => leaf_any ns[z].kind ns[z].text ns[z].bind ya ns[z].args.length yc yk ns[z].kids.length yl V
        have HCo : Hid (∀ V : World, Below W3.heap.size W3 V → _) := fun V hb => copies_any (.slice ya ns[z].args.length yc) ns[z].args V (by have h := hz6.1; have e : symTot (leafS ns[z]) = ns[z].text.size + rowTot exprTot ns[z].args + ns[z].bind.size := rfl; have h2 := rowTot_len exprTot ns[z].args; omega) (fun e he => ⟨(hz6.2 e he).1, fun x hx => ((hz6.2 e he).2 x hx).2.1⟩) (RowC.below ExprE_stable A3.out hb)
        have hsy : (symB (leafS ns[z]) kn (parsS ns[z].text rs)).2 = true ∧ knF ns rs f' true (ns[i].kids.drop (j + 1)) (symB (leafS ns[z]) kn (parsS ns[z].text rs)).1 = true := by
          have h := HKc.out
          rw [knF_leaf _ _ _ _ _ _ (by rw [nodeS_is hzl]; exact h4), nodeS_is hzl, Bool.and_eq_true] at h
          exact h
        have hkn2 := symB_len hkl hsy.1
        rw [symB_known hsy.1] at hkn2
        have HKF : Hid (knF ns rs (f - (j + 1)) true (ns[i].kids.drop (j + 1)) (if ns[z].bind = em then kn else putS kn ns[z].bind) = true) := by
          have h := hsy.2
          rw [symB_known hsy.1] at h
          rw [Hid, HNx.out]
          exact h
        have HY : Hid (rowK ns m1 (if ns[z].bind = em then kn else putS kn ns[z].bind) (outl ++ [leafS ns[z]]) (ns[i].kids.drop (j + 1)) = rowK ns m known [] ns[i].kids) := by rw [Hid, HCons.out, rowK_leaf _ _ _ _ _ _ (by rw [nodeS_is hzl]; exact h4), nodeS_is hzl]
        have hkn2' : (if ns[z].bind = em then kn else putS kn ns[z].bind).length ≤ 6 := hkn2
        have HKL : Hid _ := hkn2'
        clear HCons HKc hsy hz6 h4 hz5 hkn2 hkn2'
        by_cases hbd : ns[z].bind = em
        · have q3 : (ns[z].bind.toList != []) = false := bne_empty hbd
          have q1 : ns[z].bind.toList.isEmpty = true := isE_yes hbd
          have q2 : (ns[z].bind.toList == []) = true := beq_empty hbd
          rw [Hid, if_pos hbd] at HY HKF HKL
          have HY : Hid _ := HY
          have HKF : Hid _ := HKF
          have hk6 : kn.length ≤ 6 := HKL
          clear HKL hbd
          go_wp2_with (first
            | (at_builtin; obtain ⟨R7, H7, B7, hs7⟩ := RwI.leaf (leafS ns[z]) _ _ _ _ R3.out hb4 hb6 hF6; obtain ⟨cs7, ho7, hK7⟩ := R7.sym hBw; rw [HOL.out] at ho7 hK7; refine wpList_append_lies _ rfl _ _ 46 rfl w.heap.size 51 s0 _ 4 64 Try.underlying46 hs hs0 hs1 hs2 rfl (by decide) _ _ _ rfl ho7 ⟨w6.heap.size, 0, none⟩ 1 1 [.int .i64 ns[z].kind, .string ns[z].text, .slice ao6 ns[z].args.length co6, .string ns[z].bind] rfl rfl (by rw [← hs7]; exact World.news_of_block (cs := #[.int .i64 ns[z].kind, .string ns[z].text, .slice ao6 ns[z].args.length co6, .string ns[z].bind]) (t := 51) (fr := (0, 0)) (heap_alloc_new _ _)) (four_symF _ _ _ _ _ _) (by omega) (by unfold maxLen; omega) (by omega) (Nat.le_trans hsz3 (Nat.le_trans (Nat.le_of_lt hs3) B7.size)) _ rfl ?_; intro gg8 cap8 w8 hown8 hgr8 hat8 hlt8; clear hs7; have Y8 := xb_grown hgr8 ((B7.block _ hs3).trans HX3.out) (fun e => Nat.lt_irrefl _ (HOv.out _ e)); have v3 := run_cell (j := 3) Y8 rfl)
            | (go_at_call 25; refine (HCo.out _ B5).mono ?_; rintro e w6 ⟨o6, rfl, hF6, hb6⟩; obtain ⟨ao6, co6, rfl⟩ := hF6.here.slice; have X6 := (hb6.block _ hlt5).trans X5; have Y6 := (hb6.block _ hlty).trans Y5; have l0 := run_cell (j := 0) X6 rfl; have l1 := run_cell (j := 1) X6 rfl; have l2 := run_cell (j := 2) X6 rfl; have l3 := run_cell (j := 3) X6 rfl; have lf := run_frozen (j := 2) X6)
            | (go_at_call 86; refine (HLf.out _).mono ?_; rintro e w4 ⟨rfl, hb4⟩; have B5 : Below W3.heap.size W3 (w4.alloc (.cells #[.int .i64 ns[z].kind, .string ns[z].text, .slice ya ns[z].args.length yc, .string ns[z].bind] 51)) := hb4.alloc hb4.size _; have X5 := heap_alloc_new w4 (.cells #[.int .i64 ns[z].kind, .string ns[z].text, .slice ya ns[z].args.length yc, .string ns[z].bind] 51); have hlt5 : w4.heap.size < (w4.alloc (.cells #[.int .i64 ns[z].kind, .string ns[z].text, .slice ya ns[z].args.length yc, .string ns[z].bind] 51)).heap.size := (by simp); have Y5 := (B5.block _ hs3).trans HX3.out; have hlty : wr.heap.size < (w4.alloc (.cells #[.int .i64 ns[z].kind, .string ns[z].text, .slice ya ns[z].args.length yc, .string ns[z].bind] 51)).heap.size := Nat.lt_of_lt_of_le hs3 B5.size; have v2 := run_cell (j := 2) Y5 rfl))
          have R8 : Hid (RwI A ns rs (some ⟨g, off, none⟩) ar cn cr W0.heap.size p W0 w gv qv #[.int .i64 ns[i].kind, .string ns[i].text, .slice aa ns[i].args.length ca, .string ns[i].bind, .slice (some ⟨kb, ko, none⟩) ns[i].kids.length ck] m1 gv1 qv1 (.slice (some ⟨gg8, 0, none⟩) (j + 1) cap8) (.slice au kn.length cu) (outl ++ [leafS ns[z]]) kn w8) := hK7 gg8 cap8 w8 [.int .i64 ns[z].kind, .string ns[z].text, .slice ao6 ns[z].args.length co6, .string ns[z].bind] (leafS ns[z]) rfl H7 hown8 hgr8 hat8
          clear hown8 hgr8 hat8 hlt8 ho7 hK7 R7 H7 B7 Y8 hF6 hb6 hb4
          clear X5 Y5 X6 Y6 l0 l1 l2 l3 lf v2 B5 hlt5 hlty z0 z1 z2 z3 z4 HX3 R3 A3 HLf HCo
          go_wp2
          go_roundg f2
          case measure => omega
          case rel => exact ⟨j + 1, kn, m1, gv1, qv1, _, _, outl ++ [leafS ns[z]], by go_num, rfl, by omega, HY.out, hk6, HKF.out, by rw [List.length_append, List.length_singleton, HOL.out], by omega, by omega, by omega, R8.out⟩
        · have q3 : (ns[z].bind.toList != []) = true := bne_full hbd
          have q1 : ns[z].bind.toList.isEmpty = false := isE_no hbd
          have q2 : (ns[z].bind.toList == []) = false := beq_full hbd
          rw [Hid, if_neg hbd] at HY HKF HKL
          have HY : Hid _ := HY
          have HKF : Hid _ := HKF
          have hk6 : (putS kn ns[z].bind).length ≤ 6 := HKL
          clear HKL hbd
          go_wp2_with (first
            | (at_builtin; obtain ⟨R7, H7, B7, hs7⟩ := RwI.leaf (leafS ns[z]) _ _ _ _ R3.out hb4 hb6 hF6; obtain ⟨cs7, ho7, hK7⟩ := R7.sym hBw; rw [HOL.out] at ho7 hK7; refine wpList_append_lies _ rfl _ _ 46 rfl w.heap.size 51 s0 _ 4 64 Try.underlying46 hs hs0 hs1 hs2 rfl (by decide) _ _ _ rfl ho7 ⟨w6.heap.size, 0, none⟩ 1 1 [.int .i64 ns[z].kind, .string ns[z].text, .slice ao6 ns[z].args.length co6, .string ns[z].bind] rfl rfl (by rw [← hs7]; exact World.news_of_block (cs := #[.int .i64 ns[z].kind, .string ns[z].text, .slice ao6 ns[z].args.length co6, .string ns[z].bind]) (t := 51) (fr := (0, 0)) (heap_alloc_new _ _)) (four_symF _ _ _ _ _ _) (by omega) (by unfold maxLen; omega) (by omega) (Nat.le_trans hsz3 (Nat.le_trans (Nat.le_of_lt hs3) B7.size)) _ rfl ?_; intro gg8 cap8 w8 hown8 hgr8 hat8 hlt8; clear hs7; have Y8 := xb_grown hgr8 ((B7.block _ hs3).trans HX3.out) (fun e => Nat.lt_irrefl _ (HOv.out _ e)); have v3 := run_cell (j := 3) Y8 rfl)
            | (go_at_call 25; refine (HCo.out _ B5).mono ?_; rintro e w6 ⟨o6, rfl, hF6, hb6⟩; obtain ⟨ao6, co6, rfl⟩ := hF6.here.slice; have X6 := (hb6.block _ hlt5).trans X5; have Y6 := (hb6.block _ hlty).trans Y5; have l0 := run_cell (j := 0) X6 rfl; have l1 := run_cell (j := 1) X6 rfl; have l2 := run_cell (j := 2) X6 rfl; have l3 := run_cell (j := 3) X6 rfl; have lf := run_frozen (j := 2) X6)
            | (go_at_call 86; refine (HLf.out _).mono ?_; rintro e w4 ⟨rfl, hb4⟩; have B5 : Below W3.heap.size W3 (w4.alloc (.cells #[.int .i64 ns[z].kind, .string ns[z].text, .slice ya ns[z].args.length yc, .string ns[z].bind] 51)) := hb4.alloc hb4.size _; have X5 := heap_alloc_new w4 (.cells #[.int .i64 ns[z].kind, .string ns[z].text, .slice ya ns[z].args.length yc, .string ns[z].bind] 51); have hlt5 : w4.heap.size < (w4.alloc (.cells #[.int .i64 ns[z].kind, .string ns[z].text, .slice ya ns[z].args.length yc, .string ns[z].bind] 51)).heap.size := (by simp); have Y5 := (B5.block _ hs3).trans HX3.out; have hlty : wr.heap.size < (w4.alloc (.cells #[.int .i64 ns[z].kind, .string ns[z].text, .slice ya ns[z].args.length yc, .string ns[z].bind] 51)).heap.size := Nat.lt_of_lt_of_le hs3 B5.size; have v2 := run_cell (j := 2) Y5 rfl))
          have R8 : Hid (RwI A ns rs (some ⟨g, off, none⟩) ar cn cr W0.heap.size p W0 w gv qv #[.int .i64 ns[i].kind, .string ns[i].text, .slice aa ns[i].args.length ca, .string ns[i].bind, .slice (some ⟨kb, ko, none⟩) ns[i].kids.length ck] m1 gv1 qv1 (.slice (some ⟨gg8, 0, none⟩) (j + 1) cap8) (.slice au kn.length cu) (outl ++ [leafS ns[z]]) kn w8) := hK7 gg8 cap8 w8 [.int .i64 ns[z].kind, .string ns[z].text, .slice ao6 ns[z].args.length co6, .string ns[z].bind] (leafS ns[z]) rfl H7 hown8 hgr8 hat8
          clear hown8 hgr8 hat8 hlt8 ho7 hK7 R7 H7 B7 Y8 hF6 hb6 hb4
          have HPut : Hid (∀ _ : Unit, _) := fun _ => l03Put_any (.slice au kn.length cu) kn ns[z].bind w8 (by omega) R8.out.kno.here
          clear X5 Y5 X6 Y6 l0 l1 l2 l3 lf v2 B5 hlt5 hlty z0 z1 z2 z3 z4 HX3 R3 A3 HLf HCo
          go_wp2_with (go_at_call 62; refine (HPut.out ()).mono ?_; rintro e w9 ⟨o9, rfl, hO9, hb9⟩)
          have R9 : Hid (RwI A ns rs (some ⟨g, off, none⟩) ar cn cr W0.heap.size p W0 w gv qv #[.int .i64 ns[i].kind, .string ns[i].text, .slice aa ns[i].args.length ca, .string ns[i].bind, .slice (some ⟨kb, ko, none⟩) ns[i].kids.length ck] m1 gv1 qv1 (.slice (some ⟨gg8, 0, none⟩) (j + 1) cap8) o9 (outl ++ [leafS ns[z]]) (putS kn ns[z].bind) w9) := (R8.out.step hb9).known (Held.of_fresh (Fresh.imp (own_fresh hO9) (fun V h => OwnB.row (B := w8.heap.size) h)) (R8.out.mut_lt HA0.out))
          clear hO9 hb9 HPut R8
          go_wp2
          go_roundg f2
          case measure => omega
          case rel => exact ⟨j + 1, putS kn ns[z].bind, m1, gv1, qv1, _, _, outl ++ [leafS ns[z]], by go_num, rfl, by omega, HY.out, hk6, HKF.out, by rw [List.length_append, List.length_singleton, HOL.out], by omega, by omega, by omega, R9.out⟩
      · have e4 : decide (ns[z].kind ≤ 4) = false := decide_eq_false h4
        have HKg : Hid (knF ns rs f' true (ns[i].kids.drop (j + 1)) kn = true) := by
          have h := HKc.out
          rw [knF_group _ _ _ _ _ _ (by rw [nodeS_is hzl]; exact h4), Bool.and_eq_true] at h
          exact h.2
        have HKF : Hid (knF ns rs (f - (j + 1)) true (ns[i].kids.drop (j + 1)) kn = true) := by rw [Hid, HNx.out]; exact HKg.out
        have HY0 : Hid (rowK ns { rules := m1.rules ++ [⟨xName m1.count, kn, []⟩], queue := m1.queue ++ [((z : Int), m1.rules.length, kn)], count := m1.count + 1 } kn (outl ++ [⟨3, xName m1.count, kn.map varE, em⟩]) (ns[i].kids.drop (j + 1)) = rowK ns m known [] ns[i].kids) := by rw [Hid, HCons.out, rowK_group _ _ _ _ _ _ (by rw [nodeS_is hzl]; exact h4)]
        have HDec0 : ∀ V : World, _ := fun V => specDec_any (m1.count : Int) V (by omega) (by omega)
        have hsl : (str (Lib.itoa (m1.count : Int))).size ≤ 21 := by
          have := Go.Lib.itoa_length_le (m1.count : Int) (by omega) (by omega)
          simpa [str, ByteArray.size] using this
        have hnm : (⟨#[120]⟩ : ByteArray) ++ str (Lib.itoa (m1.count : Int)) = xName m1.count := by
          apply ByteArray.ext
          simp [xName, str]
        rw [← hnm] at HY0
        clear hnm
        generalize str (Lib.itoa (m1.count : Int)) = ss at *
        have HDec : Hid (∀ V : World, _) := HDec0
        have HY : Hid (∀ nm, nm = (⟨#[120]⟩ : ByteArray) ++ ss → _) := fun nm e => by rw [← e] at HY0; exact HY0
        have hbig : ¬ 9223372036854775807 < 1 + ss.size := by omega
        have b4 := run_cell (j := 4) R3.out.mki.box rfl
        have wc : IntKind.i64.wrap ((m1.count : Int) + 1) = ((m1.count + 1 : Nat) : Int) := by rw [IntKind.wrap_i64]; omega
        clear HDec0 HY0 h4 HCons HKc HKg hz6 hsl
        go_wp2_with (go_at_call 87; refine (HDec.out _).mono ?_; rintro e w4 ⟨rfl, hb4⟩; have M4 := R3.out.mki.step hb4; have p4 := run_cell (j := 4) M4.box rfl; have pf4 := run_frozen (j := 4) M4.box)
        have R4 := R3.out.step hb4
        have M5 := R4.mki.count (m1.count + 1)
        have R5 := R4.turn M5.1 M5.2 (fun _ _ a => a)
        rw [show ((m1.count + 1 : Nat) : Int) = (m1.count : Int) + 1 by omega] at R5
        have HR5 : Hid _ := R5
        obtain ⟨ag, cg, hgv⟩ := RowO.slice R5.mki.rul
        subst hgv
        obtain ⟨aq, cq, hqv⟩ := RowO.slice R5.mki.que
        subst hqv
        clear M4 p4 pf4 R4 M5 R5 b4 R3 HX3 hb4 z0 z1 z2 z3 z4 A3 HDec
        generalize hW5 : w4.setCell ⟨p, 4, none⟩ (.int .i64 ((m1.count : Int) + 1)) = w5 at *
        generalize hNm : (⟨#[120]⟩ : ByteArray) ++ ss = nm at *
        have HNM : Hid _ := hNm
        clear hW5 hNm
        have p2 := run_cell (j := 2) HR5.out.mki.box rfl
        have hB5 : Below w5.heap.size w5 (World.drew (w5.alloc (.cells #[] 9))) := bel_drewS ((Below.refl _ _).alloc (Nat.le_refl _) _)
        have K5 : Hid (SRow (World.drew (w5.alloc (.cells #[] 9))) (.slice au kn.length cu) kn) := (HR5.out.kno.fr (FrA.below hB5)).here
        have O5 : Hid ((World.drew (w5.alloc (.cells #[] 9))).ownsRow w5.heap.size 9 1 (.slice (some ⟨w5.heap.size, 0, none⟩) 0 0) 0 []) := (World.ownsRow_made w5 (e := 9) (size := 1) (base := w5.heap.size) #[] 0 (Nat.le_refl _) (Nat.zero_le _) (by simp)).drew
        have p2a : (w5.alloc (.cells #[] 9)).cell? ⟨p, 2, none⟩ = some (.slice ag m1.rules.length cg) := cell_keep p2 ((Below.refl _ _).alloc (Nat.le_refl _) _)
        clear hB5
        go_cut [] from 22 to 120 (fun wx => ∃ (g8 : Option Addr) (c8 : Nat), RwI A ns rs (some ⟨g, off, none⟩) ar cn cr W0.heap.size p W0 w gv qv #[.int .i64 ns[i].kind, .string ns[i].text, .slice aa ns[i].args.length ca, .string ns[i].bind, .slice (some ⟨kb, ko, none⟩) ns[i].kids.length ck] { rules := m1.rules ++ [⟨nm, kn, []⟩], queue := m1.queue, count := m1.count + 1 } (.slice g8 (m1.rules.length + 1) c8) (.slice aq m1.queue.length cq) (.slice ao j co) (.slice au kn.length cu) outl kn wx)
        case first =>
          go_region_law ((first
            | (show ite (Region.wanted (Oper.mk (some 87) _ _ _ _ _) _ = true) _ _; obtain ⟨R7, H7, B7⟩ := HR5.out.params nm HA0.out hown6 hgr6; obtain ⟨cs7, ho7, hK7⟩ := R7.mki.rule; refine step_append_lies _ (by rfl) _ _ _ (by rfl) W0.heap.size 40 r0 _ 3 64 Try.underlying24 hr hr0 hr1 hr2 rfl (by decide) _ _ _ (by rfl) ho7 ⟨w6.heap.size, 0, none⟩ 1 1 [.string nm, .slice pa6 kn.length pc6, .slice none 0 0] (by rfl) (by rfl) (World.news_of_block (cs := #[.string nm, .slice pa6 kn.length pc6, .slice none 0 0]) (t := 40) (fr := (0, 0)) (heap_alloc_new _ _)) (three_ruleF _ _ _ _ _ _ _) (by omega) (by unfold maxLen; simp only; omega) (by simp only; omega) R7.mki.lt _ rfl ?_; intro gg8 cap8 w8 hown8 hgr8 hat8 hlt8; obtain ⟨X8, M8, f8, lk8⟩ := hK7 gg8 cap8 w8 [.string nm, .slice pa6 kn.length pc6, .slice none 0 0] ⟨nm, kn, []⟩ rfl H7 hown8 hgr8 hat8; have q2 := run_cell (j := 2) X8 rfl; have qf2 := run_frozen (j := 2) X8; try go_wp2)
            | (show ite (Region.wanted (Oper.mk (some 84) _ _ _ _ _) _ = true) _ _; refine step_append_textsF (by rfl) _ _ _ (by rfl) w5.heap.size 9 t0 _ Try.underlying37 ht ht0 ht1 ht2 rfl _ 0 [] (by rfl) O5.out kn au cu (by rfl) K5.out (by omega) (by simp) ?_; intro pv6 w6 hown6 hgr6; obtain ⟨pa6, pc6, rfl⟩ : ∃ a c, pv6 = .slice a kn.length c := (by rw [Nat.zero_add] at hown6; rcases hown6.2 with ⟨rfl, h0⟩ | ⟨g, cp, cur, rfl, _⟩; exact ⟨none, 0, by rw [h0]⟩; exact ⟨_, cp, rfl⟩); have B6 : Below w5.heap.size w5 w6 := (bel_drewS ((Below.refl w5.heap.size w5).alloc (Nat.le_refl _) _)).grown hgr6 (by simp) (fun k hk => by cases hk; exact Nat.le_refl _); have p26 := cell_keep p2 B6; have p27 : (w6.alloc (.cells #[.string nm, .slice pa6 kn.length pc6, .slice none 0 0] 40)).cell? ⟨p, 2, none⟩ = some (.slice ag m1.rules.length cg) := cell_keep p26 ((Below.refl _ _).alloc (Nat.le_refl _) _); try go_wp2)))
          all_goals
            have R8 := R7.turn M8 f8 lk8
            (try go_wp2_with fail)
            go_meet
            exact ⟨_, _, R8⟩
        case rest =>
          obtain ⟨g8, c8, hR8⟩ := hcut
          have HR8 : Hid (RwI A ns rs (some ⟨g, off, none⟩) ar cn cr W0.heap.size p W0 w gv qv #[.int .i64 ns[i].kind, .string ns[i].text, .slice aa ns[i].args.length ca, .string ns[i].bind, .slice (some ⟨kb, ko, none⟩) ns[i].kids.length ck] { rules := m1.rules ++ [⟨nm, kn, []⟩], queue := m1.queue, count := m1.count + 1 } (.slice g8 (m1.rules.length + 1) c8) (.slice aq m1.queue.length cq) (.slice ao j co) (.slice au kn.length cu) outl kn wc) := hR8
          have b2 := run_cell (j := 2) hR8.mki.box rfl
          have b3 := run_cell (j := 3) hR8.mki.box rfl
          have x4 := run_cell (j := 4) hR8.xb rfl
          obtain ⟨kb', ko', ek, k4⟩ := (HZ0.out.below hR8.mki.bel).at hj
          obtain ⟨rfl, rfl⟩ : kb = kb' ∧ ko = ko' := by cases ek; exact ⟨rfl, rfl⟩
          rw [HZZ.out] at k4
          have wl1 : IntKind.i64.wrap (((m1.rules.length + 1 : Nat) : Int) - 1) = (m1.rules.length : Int) := by rw [IntKind.wrap_i64]; omega
          have wl3 : IntKind.i64.wrap (m1.rules.length : Int) = (m1.rules.length : Int) := by rw [IntKind.wrap_i64]; omega
          have wl2 : IntKind.i64.wrap ((m1.rules.length : Int) + 1 - 1) = (m1.rules.length : Int) := by rw [IntKind.wrap_i64]; omega
          have b3a : (wc.alloc (.cells #[.int .i64 (z : Int), .int .i64 (m1.rules.length : Int), .slice au kn.length cu] 133)).cell? ⟨p, 3, none⟩ = some (.slice aq m1.queue.length cq) := cell_keep b3 ((Below.refl _ _).alloc (Nat.le_refl _) _)
          clear ek hR8 HR5 K5 O5 p2 p2a
          go_wp2_with fail
          go_cut [] from 22 to 120 (fun wx => ∃ (g9 : Option Addr) (c9 : Nat), RwI A ns rs (some ⟨g, off, none⟩) ar cn cr W0.heap.size p W0 w gv qv #[.int .i64 ns[i].kind, .string ns[i].text, .slice aa ns[i].args.length ca, .string ns[i].bind, .slice (some ⟨kb, ko, none⟩) ns[i].kids.length ck] { rules := m1.rules ++ [⟨nm, kn, []⟩], queue := m1.queue ++ [((z : Int), m1.rules.length, kn)], count := m1.count + 1 } (.slice g8 (m1.rules.length + 1) c8) (.slice g9 (m1.queue.length + 1) c9) (.slice ao j co) (.slice au kn.length cu) outl kn wx)
          case first =>
            have R9 := HR8.out.step (bel_drewS ((Below.refl wc.heap.size wc).alloc (Nat.le_refl _) (.cells #[.int .i64 (z : Int), .int .i64 (m1.rules.length : Int), .slice au kn.length cu] 133)))
            obtain ⟨cs9, ho9, hK9⟩ := R9.mki.group
            go_region_law ((show ite (Region.wanted (Oper.mk (some 111) _ _ _ _ _) _ = true) _ _; refine step_append_lies _ (by rfl) _ _ _ (by rfl) W0.heap.size 133 q0 _ 3 40 Try.underlying126 hq hq0 hq1 hq2 rfl (by decide) _ _ _ (by rfl) ho9 ⟨wc.heap.size, 0, none⟩ 1 1 [.int .i64 (z : Int), .int .i64 (m1.rules.length : Int), .slice au kn.length cu] (by rfl) (by rfl) (World.news_of_block (cs := #[.int .i64 (z : Int), .int .i64 (m1.rules.length : Int), .slice au kn.length cu]) (t := 133) (fr := (0, 0)) (heap_alloc_new wc _)) (three_grpF _ _ _ _ _) (by omega) (by unfold maxLen; simp only; omega) (by simp only; omega) R9.mki.lt _ rfl ?_; intro gg9 cap9 w9 hown9 hgr9 hat9 hlt9; obtain ⟨X9, M9, f9, lk9⟩ := hK9 gg9 cap9 w9 [.int .i64 (z : Int), .int .i64 (m1.rules.length : Int), .slice au kn.length cu] ((z : Int), m1.rules.length, kn) rfl (Held.imp R9.kno (fun V h => ⟨_, rfl, h⟩)) hown9 hgr9 hat9; have q3 := run_cell (j := 3) X9 rfl; have qf3 := run_frozen (j := 3) X9; try go_wp2))
            all_goals
              have R10 := R9.turn M9 f9 lk9
              (try go_wp2_with fail)
              go_meet
              exact ⟨_, _, R10⟩
          case rest =>
            obtain ⟨g9, c9, hR9⟩ := hcut
            have HR9 : Hid (RwI A ns rs (some ⟨g, off, none⟩) ar cn cr W0.heap.size p W0 w gv qv #[.int .i64 ns[i].kind, .string ns[i].text, .slice aa ns[i].args.length ca, .string ns[i].bind, .slice (some ⟨kb, ko, none⟩) ns[i].kids.length ck] { rules := m1.rules ++ [⟨nm, kn, []⟩], queue := m1.queue ++ [((z : Int), m1.rules.length, kn)], count := m1.count + 1 } (.slice g8 (m1.rules.length + 1) c8) (.slice g9 (m1.queue.length + 1) c9) (.slice ao j co) (.slice au kn.length cu) outl kn wc) := hR9
            have HVr : Hid (∀ _ : Unit, _) := fun _ => vars_any (.slice au kn.length cu) kn wc (by omega) hR9.kno.here
            have hszc : w.heap.size ≤ wc.heap.size := hR9.fr.size
            clear hR9 HR8 b2 b3 x4 k4 b3a
            go_wp2_with (first
              | (at_builtin; have B11 : Below wc.heap.size wc (w10.alloc (.cells #[.int .i64 3, .string nm, .slice ao10 kn.length co10, .string ⟨#[]⟩] 51)) := hb10.alloc hb10.size _; obtain ⟨cs11, ho11, hK11⟩ := (HR9.out.step B11).sym hBw; have H11 : Held (AR w.heap.size (.slice ao j co) p (.slice g8 (m1.rules.length + 1) c8) (.slice g9 (m1.queue.length + 1) c9)) (w10.alloc (.cells #[.int .i64 3, .string nm, .slice ao10 kn.length co10, .string ⟨#[]⟩] 51)) (fun V => SymE V [.int .i64 3, .string nm, .slice ao10 kn.length co10, .string ⟨#[]⟩] ⟨3, nm, kn.map varE, em⟩) := Held.of_fresh (Fresh.imp (hF10.below ((Below.refl _ _).alloc (Nat.le_refl w10.heap.size) (.cells #[.int .i64 3, .string nm, .slice ao10 kn.length co10, .string ⟨#[]⟩] 51))) (fun V h => ⟨_, rfl, h⟩)) HR9.out.ar_lt; rw [HOL.out] at ho11 hK11; refine wpList_append_lies _ rfl _ _ 46 rfl w.heap.size 51 s0 _ 4 64 Try.underlying46 hs hs0 hs1 hs2 rfl (by decide) _ _ _ rfl ho11 ⟨w10.heap.size, 0, none⟩ 1 1 [.int .i64 3, .string nm, .slice ao10 kn.length co10, .string ⟨#[]⟩] rfl rfl (World.news_of_block (cs := #[.int .i64 3, .string nm, .slice ao10 kn.length co10, .string ⟨#[]⟩]) (t := 51) (fr := (0, 0)) (heap_alloc_new _ _)) (four_symF _ _ _ _ _ _) (by omega) (by unfold maxLen; omega) (by omega) (Nat.le_trans hszc B11.size) _ rfl ?_; intro gg12 cap12 w12 hown12 hgr12 hat12 hlt12)
              | (go_at_call 88; refine (HVr.out ()).mono ?_; rintro e w10 ⟨o10, rfl, hF10, hb10⟩; obtain ⟨ao10, co10, ho10⟩ := hF10.here.slice; rw [List.length_map] at ho10; subst ho10))
            have R12 : Hid (RwI A ns rs (some ⟨g, off, none⟩) ar cn cr W0.heap.size p W0 w gv qv #[.int .i64 ns[i].kind, .string ns[i].text, .slice aa ns[i].args.length ca, .string ns[i].bind, .slice (some ⟨kb, ko, none⟩) ns[i].kids.length ck] { rules := m1.rules ++ [⟨nm, kn, []⟩], queue := m1.queue ++ [((z : Int), m1.rules.length, kn)], count := m1.count + 1 } (.slice g8 (m1.rules.length + 1) c8) (.slice g9 (m1.queue.length + 1) c9) (.slice (some ⟨gg12, 0, none⟩) (j + 1) cap12) (.slice au kn.length cu) (outl ++ [⟨3, nm, kn.map varE, em⟩]) kn w12) := hK11 gg12 cap12 w12 [.int .i64 3, .string nm, .slice ao10 kn.length co10, .string ⟨#[]⟩] ⟨3, nm, kn.map varE, em⟩ rfl H11 hown12 hgr12 hat12
            clear hown12 hgr12 hat12 hlt12 hK11 ho11 H11 B11 hF10 hb10 HVr HR9
            go_wp2
            go_roundg f2
            case measure => omega
            case rel => exact ⟨j + 1, kn, _, _, _, _, _, outl ++ [⟨3, nm, kn.map varE, em⟩], by go_num, rfl, by omega, (by first | exact HY.out nm rfl | exact HY.out nm HNM.out.symm), hkl, HKF.out, by rw [List.length_append, List.length_singleton, HOL.out], by simp only [List.length_append, List.length_singleton]; omega, by simp only [List.length_append, List.length_singleton]; omega, by simp only; omega, R12.out⟩

    · have d1 : decide ((j : Int) < (ns[i].kids.length : Int)) = false := decide_eq_false (by omega)
      have HD : Hid (rowK ns m known [] ns[i].kids = (m1, outl)) := by rw [Hid, ← HE.out, List.drop_of_length_le (by omega), rowK]
      have HF : Hid (Held (fun k => k < w.heap.size ∨ Mut p gv1 qv1 k) wr (fun V => RowC 4 SymE V (.slice ao j co) outl)) := by
        have hR : RowH 4 51 SymE (fun k => k < w.heap.size ∨ Mut p gv1 qv1 k) w.heap.size (.slice ao j co) outl wr := RowH.go HI.out.out (FrA.refl _ _) (fun k _ hk => hk.elim .inl (fun h => .inr (.inr h))) (fun _ _ => rfl)
        exact RowH.held hR (fun k hk hm => hm.elim (fun h => by have := (RowO.lt HI.out.out k hk).1; omega) (fun h => HI.out.off.1 k hk h))
      clear HE HKf
      go_wp2
      go_ret
      rw [HD.out]
      exact ⟨_, gv1, qv1, rfl, HI.out.mki.away (fun k hk ha => .inl (.inl ha)), HF.out, HI.out.fr, HI.out.lk⟩

end Go.Proofs.Ytipkbkhnaekceaa
