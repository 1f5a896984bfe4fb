/- The specification's l12Flat, where it makes a right grammar (printed by mk/flf.py). -/
import Derived.Test.YtipkbkhnaekceaaFlF0
import Derived.Test.YtipkbkhnaekceaaFlG
import Derived.Deep.RegionLaw
import Derived.Deep.CutRange
namespace Go.Proofs.Ytipkbkhnaekceaa
open Go.RowKit
set_option linter.unusedVariables false

/-- Behind the copy of a rule's names, and the rule laid out for the append. -/
theorem MkI.params {A : Nat → Prop} {ns : List SNodeD} {rs : List SRuleD} {an ar : Option Addr} {cn cr B p : Nat} {W0 : World} {m : MkD} {gv qv : Value} {w5 w6 : World} {pv : Value} {kn : List ByteArray} (nm : ByteArray) (h : MkI A ns rs an ar cn cr B p W0 m gv qv w5) (hA : ∀ k, A k → k < B) (hown : w6.ownsRow w5.heap.size 9 1 pv (0 + kn.length) ([] ++ sb kn)) (hgr : (World.drew (w5.alloc (.cells #[] 9))).grownBy w6 (some w5.heap.size)) :
    MkI A ns rs an ar cn cr B p W0 m gv qv (w6.alloc (.cells #[.string nm, pv, .slice none 0 0] 40)) ∧
    Held (MutA A p gv qv) (w6.alloc (.cells #[.string nm, pv, .slice none 0 0] 40)) (fun V => RuleE V [.string nm, pv, .slice none 0 0] ⟨nm, kn, []⟩) := by
  have B5 : Below w5.heap.size w5 (World.drew (w5.alloc (.cells #[] 9))) := bel_drewS ((Below.refl _ _).alloc (Nat.le_refl _) _)
  have B6 : Below w5.heap.size w5 w6 := B5.grown hgr B5.size (fun k hk => by cases hk; exact Nat.le_refl _)
  have B7 : Below w5.heap.size w5 (w6.alloc (.cells #[.string nm, pv, .slice none 0 0] 40)) := B6.alloc B6.size _
  have F6 : Fresh w5.heap.size w6 (fun V => SRow V pv kn) := Fresh.imp (own_fresh hown) (fun V hv => by
    rw [Nat.zero_add, List.nil_append] at hv
    exact OwnB.row (B := w5.heap.size) hv)
  have F7 := F6.below ((Below.refl _ _).alloc (Nat.le_refl w6.heap.size) (.cells #[.string nm, pv, .slice none 0 0] 40))
  refine ⟨h.step B7, Held.of_fresh (Fresh.imp F7 (fun V hv => ⟨pv, .slice none 0 0, rfl, hv, none, 0, rfl, fun _ => rfl, fun h0 => absurd h0 (by simp)⟩)) (fun k a => ?_)⟩
  rcases a with a | a
  · exact Nat.lt_of_lt_of_le (hA k a) h.lt
  · exact (h.ge k a).2
theorem xFig_facts {s : ByteArray} (h : xFig s = false) (h1 : 1 < s.size) (h0 : (s[0]'(by omega)).toNat = 120) : figT s[1].toNat = false := by
  unfold xFig at h
  have e0 := drop_at (s := s) (k := 0) (by omega)
  have e1 := drop_at (s := s) (k := 1) h1
  rw [List.drop_zero] at e0
  rw [e0, e1] at h
  simp only [Bool.and_eq_false_iff, decide_eq_false_iff_not] at h
  rcases h with h | h
  · exact absurd (u8_is h0 (by decide)) h
  · exact h

set_option maxHeartbeats 25600000 in
set_option maxRecDepth 100000 in
theorem flatW_any (A : Nat → Prop) (ns : List SNodeD) (rs : List SRuleD) (hF : FlatOk ns rs) (an ar : Option Addr) (cn cr : Nat) (W : World) (hA : ∀ k, A k → k < W.heap.size) (hN : Held A W (fun V => SNs V (.slice an ns.length cn) ns)) (hR : Held A W (fun V => SRs V (.slice ar rs.length cr) rs)) :
    Calls Try.prog 56 #[.agg #[.slice an ns.length cn, .slice ar rs.length cr]] W fun e w' => ∃ o : Value, e = .returned (.tuple #[.agg #[o], .bool true]) ∧ Held A w' (fun V => RowC 3 RuleE V o (flatM ns rs)) ∧ Below W.heap.size W w' := by
  obtain ⟨r0, hr, hr0, hr1, hr2⟩ := info_parts Try.infoRuleF
  obtain ⟨t0, ht, ht0, ht1, ht2⟩ := info_parts Try.infoStr
  obtain ⟨a0, ha, ha0, ha1, ha2⟩ := info_parts Try.infoAltG
  have HF : Hid (FlatOk ns rs) := hF
  have hrl := hF.rl
  obtain ⟨W2, hW2⟩ : ∃ W2, W2 = ((W.alloc (.cells #[.slice an ns.length cn, .slice ar rs.length cr] 81)).alloc (.cells #[.slice none 0 0] 26)) := ⟨_, rfl⟩
  have bW2 : Below W.heap.size W W2 := by rw [hW2]; exact ((Below.refl _ _).alloc (Nat.le_refl _) _).alloc (by simp) _
  have sW2 : W2.heap.size = W.heap.size + 2 := by rw [hW2]; simp
  have XB : W2.heap[W.heap.size]? = some (.cells #[.slice an ns.length cn, .slice ar rs.length cr] 81 (0, 0)) := by rw [hW2]; exact (Below.heap_alloc _ _ _ (by simp)).trans (heap_alloc_new W _)
  have RB : W2.heap[W.heap.size + 1]? = some (.cells #[.slice none 0 0] 26 (0, 0)) := by
    rw [hW2]
    have := heap_alloc_new (W.alloc (.cells #[.slice an ns.length cn, .slice ar rs.length cr] 81)) (.cells #[.slice none 0 0] 26)
    rwa [show (W.alloc (.cells #[.slice an ns.length cn, .slice ar rs.length cr] 81)).heap.size = W.heap.size + 1 by simp] at this
  obtain ⟨A1, hA1⟩ : ∃ A1 : Nat → Prop, A1 = fun k => A k ∨ k = W.heap.size + 1 := ⟨_, rfl⟩
  have hA1w : ∀ k, k < W.heap.size → A1 k → A k := fun k hk a => by
    rw [hA1] at a
    exact a.elim id (fun e => by omega)
  have HA2 : Hid (∀ k, A1 k → k < W2.heap.size) := fun k a => by
    rw [hA1] at a
    rcases a with a | a
    · have := hA k a
      omega
    · omega
  have HAA : Hid (∀ k, A k → A1 k) := fun k a => by rw [hA1]; exact .inl a
  have HAR : Hid (A1 (W.heap.size + 1)) := by rw [Hid, hA1]; exact .inr rfl
  have HN2 : Hid (Held A1 W2 (fun V => SNs V (.slice an ns.length cn) ns)) := hN.go (FrA.below bW2) hA1w
  have HR2 : Hid (Held A1 W2 (fun V => SRs V (.slice ar rs.length cr) rs)) := hR.go (FrA.below bW2) hA1w
  have HXB : Hid _ := XB
  have HRB : Hid _ := RB
  have HBW2 : Hid (Below W.heap.size W W2) := bW2
  have HSW2 : Hid (W2.heap.size = W.heap.size + 2) := sW2
  have c0 := run_cell (j := 0) XB rfl
  have c1 := run_cell (j := 1) XB rfl
  have d0 : (W2.alloc (.cells #[.slice an ns.length cn, .slice ar rs.length cr, .slice none 0 0, .slice none 0 0, .int .i64 0] 128)).cell? ⟨W.heap.size, 1, none⟩ = some (.slice ar rs.length cr) := cell_keep c1 ((Below.refl _ _).alloc (Nat.le_refl _) _)
  have HM0 : Hid (MkI A1 ns rs an ar cn cr W2.heap.size W2.heap.size W2 ⟨[], [], 0⟩ (.slice none 0 0) (.slice none 0 0) (W2.alloc (.cells #[.slice an ns.length cn, .slice ar rs.length cr, .slice none 0 0, .slice none 0 0, .int .i64 0] 128))) := MkI.start W2
  have HC : Hid (∀ V, Below W2.heap.size W2 V → V.cell? ⟨W.heap.size, 0, none⟩ = some (.slice an ns.length cn) ∧ V.cell? ⟨W.heap.size, 1, none⟩ = some (.slice ar rs.length cr)) := fun V hV => ⟨cell_keep c0 hV, cell_keep c1 hV⟩
  clear hN hR hA bW2 XB RB hF hA1 hA1w
  go_enter Try.func56, Try.ntmps56
  rw [hW2] at c0 c1 d0 HM0
  go_wp2
  rw [← hW2] at c0 c1 d0 HM0 ⊢
  obtain ⟨p, hp⟩ : ∃ p, p = W.heap.size + 1 + 1 := ⟨_, rfl⟩
  have HP : Hid (p = W2.heap.size) := by rw [Hid, hp, HSW2.out]
  rw [← hp] at ⊢
  generalize hW3 : W2.alloc (.cells #[.slice an ns.length cn, .slice ar rs.length cr, .slice none 0 0, .slice none 0 0, .int .i64 0] 128) = W3 at *
  have HI0 : Hid (MkI A1 ns rs an ar cn cr W2.heap.size p W2 ⟨(heads rs).take 0, [], 0⟩ (.slice none 0 0) (.slice none 0 0) W3) := by rw [HP.out]; exact HM0.out
  clear HM0 hW3 hp hW2 c0 c1 d0 sW2

  go_loopg [5] rs.length (fun gg iv wr => ∃ (k : Nat) (ag : Option Addr) (cg : Nat), iv = .int .i64 k ∧ gg + k = rs.length ∧ MkI A1 ns rs an ar cn cr W2.heap.size p W2 ⟨(heads rs).take k, [], 0⟩ (.slice ag k cg) (.slice none 0 0) wr)
  case atStart => exact ⟨0, none, 0, rfl, by omega, HI0.out⟩
  case round =>
    obtain ⟨k, ag, cg, rfl, hg, hI⟩ := hrel
    have HI : Hid (MkI A1 ns rs an ar cn cr W2.heap.size p W2 ⟨(heads rs).take k, [], 0⟩ (.slice ag k cg) (.slice none 0 0) wr) := hI
    have b1 := (HC.out wr hI.bel).2
    clear hI HI0
    by_cases hk : k < rs.length
    · have hk1 : (k : Int) < (rs.length : Int) := by omega
      have dk : decide ((k : Int) < (rs.length : Int)) = true := decide_eq_true hk1
      obtain ⟨rb, ro, pa, pc, har, n0, n1, n2, hP⟩ := sRs_at (HR2.out.fr (FrA.below HI.out.bel)).here hk
      subst har
      have p2 := run_cell (j := 2) HI.out.box rfl
      have HLk : Hid (((heads rs).take k).length = k) := by rw [Hid, List.length_take]; simp [heads]; omega
      have HLk2 : Hid ((⟨(heads rs).take k, [], 0⟩ : MkD).rules.length = k) := HLk.out
      have HTk : Hid ((heads rs).take (k + 1) = (heads rs).take k ++ [⟨rs[k].name, rs[k].params, []⟩]) := by
        rw [Hid, List.take_succ_eq_append_getElem (by simp [heads]; exact hk)]
        simp [heads]
      have hpl : rs[k].params.length ≤ 6 := HF.out.pl _ (List.getElem_mem hk)
      have hnf : xFig rs[k].name = false := HF.out.nam _ (List.getElem_mem hk)
      have HB5 : Below wr.heap.size wr (World.drew (wr.alloc (.cells #[] 9))) := bel_drewS ((Below.refl _ _).alloc (Nat.le_refl _) _)
      have K5 : Hid (SRow (World.drew (wr.alloc (.cells #[] 9))) (.slice pa rs[k].params.length pc) rs[k].params) := hP.below HB5
      have O5 : Hid ((World.drew (wr.alloc (.cells #[] 9))).ownsRow wr.heap.size 9 1 (.slice (some ⟨wr.heap.size, 0, none⟩) 0 0) 0 []) := (World.ownsRow_made wr (e := 9) (size := 1) (base := wr.heap.size) #[] 0 (Nat.le_refl _) (Nat.zero_le _) (by simp)).drew
      have bal : Below wr.heap.size wr (wr.alloc (.cells #[] 9)) := (Below.refl _ _).alloc (Nat.le_refl _) _
      have p2a := cell_keep p2 bal
      have b1a := cell_keep b1 bal
      have n1a := cell_keep n1 bal
      have HFx : Hid (∀ b V, _) := fun b V => fig10_any b V
      obtain ⟨f2, rfl⟩ : ∃ f, gk = f + 1 := ⟨gk - 1, by omega⟩
      have hk8 : k ≤ 8 := by omega
      clear hP HB5 bal
      go_upto_region 6 with fail
      go_cut [40] from 15 to 62 (fun cv wx => cv = .bool false ∧ wx = wr)
      case first =>
        by_cases h1 : 1 < rs[k].name.size
        · have e1 : decide ((1 : Int) < (rs[k].name.size : Int)) = true := decide_eq_true (by omega)
          have u0 := (rs[k].name[0]'(by omega)).toNat_lt
          by_cases h0 : (rs[k].name[0]'(by omega)).toNat = 120
          · have q0 : (((rs[k].name[0]'(by omega)).toNat : Int) == 120) = true := by rw [beq_iff_eq]; omega
            have HX : Hid (figT rs[k].name[1].toNat = false) := xFig_facts hnf h1 h0
            have HFy : Hid (∀ V, _) := fun V => HFx.out rs[k].name[1].toNat V
            rw [HX.out] at HFy
            clear h0 hnf
            go_wp2_with (go_at_call 73; refine (HFy.out _).mono ?_; rintro e wq ⟨rfl, hw⟩; rw [hw]; clear hw)
            go_meet
            exact ⟨rfl, rfl⟩
          · have q0 : (((rs[k].name[0]'(by omega)).toNat : Int) == 120) = false := by rw [beq_eq_false_iff_ne]; omega
            clear h0 hnf
            go_wp2_with fail
            go_meet
            exact ⟨rfl, rfl⟩
        · have e1 : decide ((1 : Int) < (rs[k].name.size : Int)) = false := decide_eq_false (by omega)
          clear hnf
          go_wp2_with fail
          go_meet
          exact ⟨rfl, rfl⟩
      case rest =>
        obtain ⟨rfl, hwc⟩ := hcut
        rw [hwc]
        clear hwc hnf
        go_upto_region 8 with fail
        go_region_law ((first
            | (show ite (Region.wanted (Oper.mk (some 59) _ _ _ _ _) _ = true) _ _; obtain ⟨R7, H7⟩ := MkI.params rs[k].name HI.out HA2.out hown6 hgr6; obtain ⟨cs7, ho7, hK7⟩ := R7.rule; rw [HLk2.out] at ho7 hK7; refine step_append_lies _ (by rfl) _ _ _ (by rfl) W2.heap.size 40 r0 _ 3 64 Try.underlying24 hr hr0 hr1 hr2 rfl (by decide) _ _ _ (by rfl) ho7 ⟨w6.heap.size, 0, none⟩ 1 1 [.string rs[k].name, .slice pa6 rs[k].params.length pc6, .slice none 0 0] (by rfl) (by rfl) (World.news_of_block (cs := #[.string rs[k].name, .slice pa6 rs[k].params.length pc6, .slice none 0 0]) (t := 40) (fr := (0, 0)) (heap_alloc_new _ _)) (three_ruleF _ _ _ _ _ _ _) (by omega) (by unfold maxLen; omega) (by omega) R7.lt _ rfl ?_; intro gg8 cap8 w8 hown8 hgr8 hat8 hlt8; obtain ⟨X8, M8, f8, lk8⟩ := hK7 gg8 cap8 w8 [.string rs[k].name, .slice pa6 rs[k].params.length pc6, .slice none 0 0] ⟨rs[k].name, rs[k].params, []⟩ rfl H7 hown8 hgr8 hat8; have q2 := run_cell (j := 2) X8 rfl; have qf2 := run_frozen (j := 2) X8; try go_wp2)
            | (show ite (Region.wanted (Oper.mk (some 56) _ _ _ _ _) _ = true) _ _; refine step_append_textsF (by rfl) _ _ _ (by rfl) wr.heap.size 9 t0 _ Try.underlying37 ht ht0 ht1 ht2 rfl _ 0 [] (by rfl) O5.out rs[k].params pa pc (by rfl) K5.out (by omega) (by simp) ?_; intro pv6 w6 hown6 hgr6; obtain ⟨pa6, pc6, rfl⟩ : ∃ a c, pv6 = .slice a rs[k].params.length c := (by rw [Nat.zero_add] at hown6; rcases hown6.2 with ⟨rfl, h0⟩ | ⟨g, cp, cur, rfl, _⟩; exact ⟨none, 0, by rw [h0]⟩; exact ⟨_, cp, rfl⟩); have B6 : Below wr.heap.size wr w6 := (bel_drewS ((Below.refl wr.heap.size wr).alloc (Nat.le_refl _) _)).grown hgr6 (by simp) (fun k hk => by cases hk; exact Nat.le_refl _); have p26 := cell_keep p2 B6; have p27 : (w6.alloc (.cells #[.string rs[k].name, .slice pa6 rs[k].params.length pc6, .slice none 0 0] 40)).cell? ⟨p, 2, none⟩ = some (.slice ag k cg) := cell_keep p26 ((Below.refl _ _).alloc (Nat.le_refl _) _); try go_wp2)))
        all_goals
          have HM8 : Hid _ := M8
          clear K5 O5 HI M8 X8 f8 lk8 q2 qf2 hK7 ho7 H7 R7 hown8 hgr8 hat8 hlt8
          (try go_wp2)
          go_roundg f2
          case measure => omega
          case rel => exact ⟨k + 1, _, _, by go_num, by omega, by rw [HTk.out]; exact HM8.out⟩

    · have d1x : decide ((k : Int) < (rs.length : Int)) = false := decide_eq_false (by omega)
      have HTk : Hid ((heads rs).take k = heads rs) := List.take_of_length_le (by simp [heads]; omega)
      rw [HTk.out] at HI
      go_wp2
      go_loopg [7] rs.length (fun gg iv wr => ∃ (i : Nat) (m1 : MkD) (gv1 qv1 : Value), iv = .int .i64 i ∧ gg + i = rs.length ∧ bodiesM ns m1 i (rs.drop i) = startM ns rs ∧ GrewN ⟨heads rs, [], 0⟩ m1 (64 * i) ∧ MkI A1 ns rs an ar cn cr W2.heap.size p W2 m1 gv1 qv1 wr)
      case atStart => exact ⟨0, _, _, _, rfl, by omega, rfl, ⟨Nat.le_refl _, by simp, by simp, by simp⟩, HI.out⟩
      case round =>
        obtain ⟨i, m1, gv1, qv1, rfl, hg2, hE, hGr, hI⟩ := hrel
        have HE : Hid (bodiesM ns m1 i (rs.drop i) = startM ns rs) := hE
        have HGr : Hid (GrewN ⟨heads rs, [], 0⟩ m1 (64 * i)) := hGr
        have HJ : Hid (MkI A1 ns rs an ar cn cr W2.heap.size p W2 m1 gv1 qv1 wr) := hI
        have hhl : (heads rs).length = rs.length := by simp [heads]
        have hgr1 : rs.length ≤ m1.rules.length := by have := hGr.lo; simp only [hhl] at this; exact this
        have hgr2 : m1.rules.length ≤ rs.length + 64 * i := by have := hGr.rl; simp only [hhl] at this; exact this
        have hgr3 : m1.queue.length ≤ 64 * i := by have := hGr.ql; simpa using this
        have hgr4 : m1.count ≤ 64 * i := by have := hGr.cl; simpa using this
        have b0 := (HC.out wr hI.bel).1
        have b1 := (HC.out wr hI.bel).2
        clear hE hGr hI HI b1 b0 hhl
        have b0 := (HC.out wr HJ.out.bel).1
        have b1 := (HC.out wr HJ.out.bel).2
        by_cases hi : i < rs.length
        · have hi1 : (i : Int) < (rs.length : Int) := by omega
          have di : decide ((i : Int) < (rs.length : Int)) = true := decide_eq_true hi1
          obtain ⟨rb, ro, pa, pc, har, _, n1, n2, _⟩ := sRs_at HR2.out.here hi
          subst har
          have HPh : Hid (Held A1 W2 (fun V => SRow V (.slice pa rs[i].params.length pc) rs[i].params)) := params_held HR2.out hi n1
          have hbo := HF.out.bod _ (List.getElem_mem hi)
          rw [bodyOk, Bool.and_eq_true, decide_eq_true_eq] at hbo
          obtain ⟨⟨hb0, hb1, hb6, hpl, hbf⟩, hkf⟩ := hbo
          obtain ⟨y, hy⟩ : ∃ y : Nat, rs[i].body = (y : Int) := ⟨rs[i].body.toNat, by omega⟩
          rw [hy, Int.toNat_natCast] at hb1 hbf
          rw [hy, nodeS_is hb1] at hb6
          rw [hy, nodeS_is hb1] at hkf
          obtain ⟨g, off, _, _, yk, yl, hgo, _, _, _, _, y4w, _, hYZ⟩ := sNs_at HN2.out.here hb1
          subst hgo
          have HZ0 : Hid (IRow W2 (.slice yk ns[y].kids.length yl) ns[y].kids) := hYZ
          have n2' := cell_keep n2 HJ.out.bel
          rw [hy] at n2'
          have y4 := cell_keep y4w HJ.out.bel
          have iy : (y : Int) < (ns.length : Int) := by omega
          have hal := (HF.out.shp y hb1).alt hb6
          have HKd : Hid (∀ j (hj : j < ns[y].kids.length), ∃ x : Nat, ns[y].kids[j] = (x : Int) ∧ x < y ∧ ∃ hx : x < ns.length, ns[x].kind = 5) := fun j hj => by
            obtain ⟨x, e, hxy, hx, _, q, _⟩ := kid_lt HF.out.shp hb1 hj
            exact ⟨x, e, hxy, hx, q hb6⟩
          have HKF0 : Hid (knF ns rs 2000 false ns[y].kids rs[i].params = true) := hkf
          have HN1 : Hid (W2.cell? ⟨rb, ro + i * 3 + 1, none⟩ = some (.slice pa rs[i].params.length pc)) := n1
          have HNx : Hid (bodiesM ns m1 i (rs.drop i) = (match rowsK ns rs[i].params m1 [] ns[y].kids with | (m, alts) => bodiesM ns { m with rules := setAlts m.rules i alts } (i + 1) (rs.drop (i + 1)))) := by
            rw [Hid, List.drop_eq_getElem_cons hi, bodiesM, hy, nodeS_is hb1]
          obtain ⟨f2, rfl⟩ : ∃ f, gk = f + 1 := ⟨gk - 1, by omega⟩
          have hi8 : i ≤ 8 := by omega
          clear n1 n2 hYZ y4w hb6 hkf hb0
          go_upto_region 12 with fail
          go_quiet (fail)
          have BQ : Below wr.heap.size wr (wr.drewN nq) := bel_drewN (Below.refl _ _) _
          have HS4 : Hid (BwI A1 ns rs (some ⟨g, off, none⟩) (some ⟨rb, ro, none⟩) cn cr W2.heap.size p W2 m1 gv1 qv1 (.slice (some ⟨(wr.drewN nq).heap.size, 0, none⟩) 0 0) [] ((wr.drewN nq).alloc (.cells #[] 48))) := BwI.start (HJ.out.step BQ) HA2.out
          generalize wr.drewN nq = W4 at *
          clear BQ b0 b1 n2' y4
          go_wp2
          generalize W4.alloc (.cells #[] 48) = W5 at *
          go_loopg [9, 10] ns[y].kids.length (fun gg av kv wr => ∃ (k : Nat) (m2 : MkD) (gv2 qv2 : Value) (a9 : Option Addr) (c9 : Nat) (alts : List (List SymD)), kv = .int .i64 k ∧ av = .slice a9 k c9 ∧ gg + k = ns[y].kids.length ∧ rowsK ns rs[i].params m2 alts (ns[y].kids.drop k) = rowsK ns rs[i].params m1 [] ns[y].kids ∧ alts.length = k ∧ Grew m1 m2 (8 * k) ∧ knF ns rs (2000 - k) false (ns[y].kids.drop k) rs[i].params = true ∧ BwI A1 ns rs (some ⟨g, off, none⟩) (some ⟨rb, ro, none⟩) cn cr W2.heap.size p W2 m2 gv2 qv2 (.slice a9 k c9) alts wr)
          case atStart => exact ⟨0, m1, gv1, qv1, _, _, [], rfl, rfl, by omega, rfl, rfl, Grew.refl m1, HKF0.out, HS4.out⟩
          case round =>
            obtain ⟨k, m2, gv2, qv2, a9, c9, alts, rfl, rfl, hg3, hE3, hal3, hGr3, hkf3, hI3⟩ := hrel
            have HE3 : Hid (rowsK ns rs[i].params m2 alts (ns[y].kids.drop k) = rowsK ns rs[i].params m1 [] ns[y].kids) := hE3
            have HAL : Hid (alts.length = k) := hal3
            have HG3 : Hid (Grew m1 m2 (8 * k)) := hGr3
            have HKf : Hid (knF ns rs (2000 - k) false (ns[y].kids.drop k) rs[i].params = true) := hkf3
            have HI : Hid (BwI A1 ns rs (some ⟨g, off, none⟩) (some ⟨rb, ro, none⟩) cn cr W2.heap.size p W2 m2 gv2 qv2 (.slice a9 k c9) alts wr) := hI3
            clear hE3 hal3 hGr3 hkf3 hI3 HS4
            by_cases hk3 : k < ns[y].kids.length
            · obtain ⟨x, hx, hxy, hxl, hx5⟩ := HKd.out k hk3
              obtain ⟨kb, ko, rfl, hkc⟩ := HZ0.out.at hk3
              rw [hx] at hkc
              have HKS : Hid (∀ V, Below W2.heap.size W2 V → V.cell? ⟨kb, ko + k, none⟩ = some (.int .i64 (x : Int)) ∧ V.cell? ⟨W.heap.size, 1, none⟩ = some (.slice (some ⟨rb, ro, none⟩) rs.length cr) ∧ V.cell? ⟨rb, ro + i * 3 + 1, none⟩ = some (.slice pa rs[i].params.length pc)) := fun V hV => ⟨cell_keep hkc hV, (HC.out V hV).2, cell_keep HN1.out hV⟩
              obtain ⟨k0', k1', k2'⟩ := HKS.out wr HI.out.mki.bel
              have j2 : (k : Int) < (ns[y].kids.length : Int) := by omega
              have dk : decide ((k : Int) < (ns[y].kids.length : Int)) = true := decide_eq_true j2
              have hq1 := HG3.out.rl
              have hq2 := HG3.out.ql
              have hq3 := HG3.out.cl
              obtain ⟨f3, rfl⟩ : ∃ f, gk = f + 1 := ⟨gk - 1, by omega⟩
              obtain ⟨f', hf'⟩ : ∃ f', 2000 - k = f' + 1 := ⟨2000 - k - 1, by omega⟩
              have HKc : Hid (knF ns rs f' true ns[x].kids rs[i].params = true ∧ knF ns rs f' false (ns[y].kids.drop (k + 1)) rs[i].params = true) := by
                have h := HKf.out
                rw [hf', List.drop_eq_getElem_cons hk3, hx, knF_alt, nodeS_is hxl, Bool.and_eq_true] at h
                exact h
              have HRow : Hid (∀ V, Below wr.heap.size wr V → _) := fun V hV => rowM_any (AO A1 (.slice a9 k c9)) ns rs HF.out.shp HF.out.lf HF.out.nl (some ⟨g, off, none⟩) (some ⟨rb, ro, none⟩) cn cr p W2 HN2.out.here m2 gv2 qv2 (.slice pa rs[i].params.length pc) rs[i].params V x hxl hx5 f' (by omega) hpl HKc.out.1 (fun j hj => (HI.out.step hV).ao_lt HA2.out j hj) (HI.out.step hV).mki (held_low HPh.out (HI.out.step hV).mki.bel (fun j a => by
                rcases a with (a | a) | a
                · exact .inl a
                · exact .inr (RowO.lt (HI.out.step hV).als j a).1
                · exact .inr ((HI.out.step hV).mki.ge j a).1)) (by omega) (by omega) (by omega)
              have HNxt : Hid (rowsK ns rs[i].params (rowK ns m2 rs[i].params [] ns[x].kids).1 (alts ++ [(rowK ns m2 rs[i].params [] ns[x].kids).2]) (ns[y].kids.drop (k + 1)) = rowsK ns rs[i].params m1 [] ns[y].kids) := by
                rw [Hid, ← HE3.out, List.drop_eq_getElem_cons hk3, hx, rowsK_cons, nodeS_is hxl]
              have hx8 := (HF.out.shp x hxl).row hx5
              have HG4 : Hid (Grew m1 (rowK ns m2 rs[i].params [] ns[x].kids).1 (8 * (k + 1))) := HG3.out.trans (rowK_grew ns ns[x].kids m2 rs[i].params []).1 (by omega)
              have HKn : Hid (knF ns rs (2000 - (k + 1)) false (ns[y].kids.drop (k + 1)) rs[i].params = true) := by
                rw [Hid, show 2000 - (k + 1) = f' by omega]
                exact HKc.out.2
              have hk8 : k ≤ 8 := by omega
              clear hx8 HE3 HKf HG3
              generalize (rowK ns m2 rs[i].params [] ns[x].kids).1 = m3 at *
              generalize (rowK ns m2 rs[i].params [] ns[x].kids).2 = syms at *
              go_upto_region 17 with fail
              go_region_held3 (fun V => V.cell? ⟨kb, ko + k, none⟩ = some (.int .i64 (x : Int)) ∧ V.cell? ⟨W.heap.size, 1, none⟩ = some (.slice (some ⟨rb, ro, none⟩) rs.length cr) ∧ V.cell? ⟨rb, ro + i * 3 + 1, none⟩ = some (.slice pa rs[i].params.length pc))
                ((first | exact HKS.out _ BV8 | exact HKS.out _ BV7 | exact HKS.out _ BV6 | go_keep))
                ((first
                  | (show ite (Region.wanted (Oper.mk (some 103) _ _ _ _ _) _ = true) _ _; refine step_append_lies _ (by rfl) _ _ _ (by rfl) W2.heap.size 48 a0 _ 1 24 Try.underlying38 ha ha0 ha1 ha2 rfl (by decide) _ _ _ (by rfl) HO7.out ⟨w6.heap.size, 0, none⟩ 1 1 [.slice ao syms.length co] (by rfl) (by rfl) (cell_one_new _ _ _) (one_slG _ _ _) (by omega) (by unfold maxLen; omega) (by omega) HB7.out.size _ rfl ?_; intro g8 cap8 w8 hown8 hgr8 hat8 hlt8; have J8 := HK7.out g8 cap8 w8 [.slice ao syms.length co] syms rfl (Held.imp H7.out (fun V h => ⟨_, rfl, h⟩)) hown8 hgr8 hat8; have BV8 := J8.mki.bel)
                  | (go_at_call 74; refine (HRow.out _ (bel_drewS (Below.refl _ _))).mono ?_; rintro e w6 ⟨o6, gv6, qv6, rfl, hM6, hH6, hf6, hlk6⟩; have BV6 := hM6.bel; obtain ⟨ao, co, ho6⟩ := hH6.here.slice; subst ho6; have I6 := HI.out.turn hM6 ⟨hf6.size, fun j hj ha => hf6.block j hj ha⟩ hlk6; have bal6 : Below w6.heap.size w6 (w6.alloc (.cells #[.slice ao syms.length co] 48)) := (Below.refl _ _).alloc (Nat.le_refl _) _; have H7 : Hid (Held (MutA (AO A1 (.slice a9 k c9)) p gv6 qv6) (w6.alloc (.cells #[.slice ao syms.length co] 48)) (fun V => RowC 4 SymE V (.slice ao syms.length co) syms)) := (hH6.away (fun j hj a => a.elim (fun a => .inl (HI.out.ao_lt HA2.out j a)) .inr)).fr (FrA.below bal6); have I7 := I6.step bal6; have BV7 := I7.mki.bel; have HB7 : Hid _ := BV7; obtain ⟨cs7, ho7, hK7⟩ := I7.add; rw [HAL.out] at ho7 hK7; have HO7 : Hid _ := ho7; have HK7 : Hid (∀ (g cap : Nat) (w2 : World) (vs : List Value) (x : List SymD), _) := hK7; clear ho7 hK7 I7 I6 bal6)))
              have HJ8 : Hid _ := J8
              have HAL2 : Hid ((alts ++ [syms]).length = k + 1) := by rw [Hid, List.length_append, List.length_singleton, HAL.out]
              clear J8 hown8 hgr8 hat8 hlt8 HK7 HO7 H7 BV8 BV7 BV6 HB7 HRow HKS
              (try go_wp2)
              go_roundg f3
              case measure => omega
              case rel => exact ⟨k + 1, m3, _, _, _, _, alts ++ [syms], by go_num, rfl, by omega, HNxt.out, HAL2.out, HG4.out, HKn.out, HJ8.out⟩
            · have dkx : decide ((k : Int) < (ns[y].kids.length : Int)) = false := decide_eq_false (by omega)
              have HRk : Hid (rowsK ns rs[i].params m1 [] ns[y].kids = (m2, alts)) := by rw [Hid, ← HE3.out, List.drop_of_length_le (by omega)]; rfl
              rw [HRk.out, HE.out] at HNx
              obtain ⟨hMf, hHf⟩ := HI.out.fin HA2.out
              have hlo2 : m1.rules.length ≤ m2.rules.length := HG3.out.n.lo
              have hi2 : i < m2.rules.length := by omega
              obtain ⟨gb, cg2, eg, ⟨cc, hcc, hcf⟩, _, hMk, _⟩ := hMf.alts hi2 _ alts hHf
              subst eg
              have t0' := run_cell (j := 2) hMf.box rfl
              have ii2 : (i : Int) < (m2.rules.length : Int) := by omega
              have HMk : Hid _ := hMk
              have HG5 : Hid (GrewN ⟨heads rs, [], 0⟩ { m2 with rules := setAlts m2.rules i alts } (64 * (i + 1))) := by
                have h1 := HGr.out
                have h2 := HG3.out.n
                have e := setAlts_len m2.rules i alts
                have a1 : m1.rules.length ≤ (heads rs).length + 64 * i := h1.rl
                have a2 : m1.queue.length ≤ 0 + 64 * i := h1.ql
                have a3 : m1.count ≤ 0 + 64 * i := h1.cl
                have a4 : (heads rs).length ≤ m1.rules.length := h1.lo
                have c1 := h2.rl
                have c2 := h2.ql
                have c3 := h2.cl
                have c4 := h2.lo
                refine ⟨?_, ?_, ?_, ?_⟩
                · show (heads rs).length ≤ (setAlts m2.rules i alts).length
                  omega
                · show (setAlts m2.rules i alts).length ≤ (heads rs).length + _
                  omega
                · show m2.queue.length ≤ 0 + _
                  omega
                · show m2.count ≤ 0 + _
                  omega
              clear hMf hHf hMk HI HE3 HG3 HKf
              go_wp2
              go_roundg f2
              case measure => omega
              case rel => exact ⟨i + 1, _, _, _, by go_num, by omega, HNx.out.symm, HG5.out, HMk.out⟩

        · have dix : decide ((i : Int) < (rs.length : Int)) = false := decide_eq_false (by omega)
          have HS : Hid (m1 = startM ns rs) := by
            have h := HE.out
            rw [List.drop_of_length_le (by omega)] at h
            exact h
          have HQ0 : Hid (stepsB ns rs 130 0 m1 = true) := by rw [Hid, HS.out]; exact HF.out.stp
          have HFm : Hid (flatM ns rs = (queueM ns 130 0 m1).rules) := by rw [Hid, HS.out]; exact flatM_is ns rs
          clear HE HGr HS hgr1 hgr2 hgr3 hgr4 b0
          go_wp2
          go_loopg [11] 130 (fun gg iv wr => ∃ (j : Nat) (m2 : MkD) (gv2 : Value) (aq : Option Addr) (cq : Nat), iv = .int .i64 j ∧ gg + j = 130 ∧ queueM ns gg j m2 = queueM ns 130 0 m1 ∧ stepsB ns rs gg j m2 = true ∧ MkI A1 ns rs an ar cn cr W2.heap.size p W2 m2 gv2 (.slice aq m2.queue.length cq) wr)
          case atStart =>
            obtain ⟨aq, cq, hqv⟩ := RowO.slice HJ.out.que
            refine ⟨0, m1, gv1, aq, cq, rfl, rfl, rfl, HQ0.out, ?_⟩
            rw [← hqv]
            exact HJ.out
          case round =>
            obtain ⟨j, m2, gv2, aq, cq, rfl, hgj, hQ, hSt, hI⟩ := hrel
            have HQ : Hid (queueM ns gk j m2 = queueM ns 130 0 m1) := hQ
            have HSt : Hid (stepsB ns rs gk j m2 = true) := hSt
            have HI4 : Hid (MkI A1 ns rs an ar cn cr W2.heap.size p W2 m2 gv2 (.slice aq m2.queue.length cq) wr) := hI
            have p3 := run_cell (j := 3) hI.box rfl
            clear hQ hSt hI HJ
            by_cases hj : j < m2.queue.length
            · have hj1 : (j : Int) < (m2.queue.length : Int) := by omega
              have dj : decide ((j : Int) < (m2.queue.length : Int)) = true := decide_eq_true hj1
              obtain ⟨f4, rfl⟩ : ∃ f, gk = f + 1 := by
                cases gk with
                | zero =>
                  have h := HSt.out
                  rw [stepsB, decide_eq_true_eq] at h
                  omega
                | succ f => exact ⟨f, rfl⟩
              have hqd : m2.queue.getD j default = m2.queue[j] := by rw [List.getD_eq_getElem?_getD, List.getElem?_eq_getElem hj]; rfl
              have hst := HSt.out
              rw [stepsB, if_pos hj, hqd, Bool.and_eq_true] at hst
              have hqn := HQ.out
              rw [queueM, if_pos hj, hqd] at hqn
              obtain ⟨gq, cq', vsq, eq, hBq, hv3, hcq, hxq⟩ := RowO.at HI4.out.que hj
              obtain ⟨rfl, rfl⟩ : aq = some ⟨gq, 0, none⟩ ∧ cq = cq' := by cases eq; exact ⟨rfl, rfl⟩
              obtain ⟨qz, qri, qk⟩ : ∃ (z ri : Nat) (kn : List ByteArray), m2.queue[j] = ((z : Int), ri, kn) := ⟨m2.queue[j].1.toNat, m2.queue[j].2.1, m2.queue[j].2.2, by
                have h := hst.1
                rw [grpOk, Bool.and_eq_true, decide_eq_true_eq] at h
                have h0 := h.1.1
                refine Prod.ext ?_ rfl
                show m2.queue[j].1 = _
                omega⟩
              obtain ⟨kn, hqe⟩ := qk
              rw [hqe] at hst hqn hxq
              obtain ⟨hst1, hst2⟩ := hst
              rw [grpOk, Bool.and_eq_true, decide_eq_true_eq] at hst1
              obtain ⟨⟨_, hz1, hz4, hz5, hzr, hzk, hzf, hm1, hm2, hm3⟩, hzkf⟩ := hst1
              rw [Int.toNat_natCast] at hz1 hzf
              rw [nodeS_is hz1] at hz4 hz5
              obtain ⟨kv, hvs, hsr⟩ := Held.here hxq
              have hvs' : vsq = [.int .i64 (qz : Int), .int .i64 (qri : Int), kv] := hvs
              subst hvs'
              have u0' := hcq 0 (by simp)
              have u1' := hcq 1 (by simp)
              have u2' := hcq 2 (by simp)
              rw [Nat.add_zero] at u0'
              obtain ⟨ka4, kc4, hkv⟩ := hsr.slice
              subst hkv
              have HKn : Hid (Held (MutA A1 p gv2 (.slice (some ⟨gq, 0, none⟩) m2.queue.length cq)) wr (fun V => SRow V (.slice ka4 kn.length kc4) kn)) := Held.imp hxq (fun V h => by
                obtain ⟨kv', e, h⟩ := h
                cases e
                exact h)
              have HGrp : Hid (∀ _ : Unit, _) := fun _ => groupW_any A1 ns rs HF.out.shp HF.out.lf HF.out.nl an ar cn cr p W2 HN2.out.here HR2.out.here m2 gv2 (.slice (some ⟨gq, 0, none⟩) m2.queue.length cq) (.slice ka4 kn.length kc4) kn wr qz qri hz1 hz4 hz5 hzr 2000 hzf hzk hzkf (fun k hk => Nat.lt_of_lt_of_le (HA2.out k hk) HI4.out.lt) HI4.out HKn.out hm1 hm2 hm3
              have HQn : Hid (queueM ns f4 (j + 1) (groupM ns m2 ((qz : Int), qri, kn)) = queueM ns 130 0 m1) := hqn
              have HSn : Hid (stepsB ns rs f4 (j + 1) (groupM ns m2 ((qz : Int), qri, kn)) = true) := hst2
              clear hst2 hqn hqd hxq hvs hsr hcq hv3 hBq eq hqe hz1 hz4 hz5 hzr hzk hzf hm1 hm2 hm3 hzkf
              go_wp2_with (go_at_call 75; refine (HGrp.out ()).mono ?_; rintro e w6 ⟨gv6, qv6, rfl, hM6, _, _⟩)
              obtain ⟨aq6, cq6, hq6⟩ := RowO.slice hM6.que
              rw [hq6] at hM6
              have HM6 : Hid _ := hM6
              clear hM6 HGrp HKn
              (try go_wp2)
              go_roundg f4
              case measure => omega
              case rel => exact ⟨j + 1, _, gv6, aq6, cq6, by go_num, by omega, HQn.out, HSn.out, HM6.out⟩

            · have djx : decide ((j : Int) < (m2.queue.length : Int)) = false := decide_eq_false (by omega)
              have HFm2 : Hid (m2.rules = flatM ns rs) := by
                rw [Hid, HFm.out, ← HQ.out]
                cases gk with
                | zero => rfl
                | succ f => rw [queueM, if_neg hj]
              have hrowC : RowC 3 RuleE wr gv2 (flatM ns rs) := by rw [← HFm2.out]; exact RowH.rowC HI4.out.rul
              have HOk : Hid (∀ _ : Unit, _) := fun _ => specGrammarOk_any gv2 (flatM ns rs) wr HF.out.tot HF.out.gin hrowC
              rw [HF.out.gok] at HOk
              obtain ⟨ag, cg2, hgv⟩ := RowO.slice HI4.out.rul
              subst hgv
              have p2 := run_cell (j := 2) HI4.out.box rfl
              have HB4 : Hid (Below W2.heap.size W2 wr) := HI4.out.bel
              have rr := HB4.out.block (W.heap.size + 1) (by have := HSW2.out; omega)
              have RBw : wr.heap[W.heap.size + 1]? = some (.cells #[.slice none 0 0] 26 (0, 0)) := rr.trans HRB.out
              have HRBw : Hid _ := RBw
              have HBox : Hid _ := HI4.out.box
              have HHe : Hid (Held A1 wr (fun V => RowC 3 RuleE V (.slice ag m2.rules.length cg2) (flatM ns rs))) := by
                have h2 : RowH 3 40 RuleE A1 W2.heap.size (.slice ag m2.rules.length cg2) m2.rules wr := RowH.go HI4.out.rul (FrA.refl _ _) (fun k _ a => .inl a) (fun _ _ => rfl)
                have h3 := RowH.held h2 (fun k hk a => by have := HA2.out k a; have := (RowO.lt h2 k hk).1; omega)
                rw [HFm2.out] at h3
                rw [HFm2.out]
                exact h3
              clear hrowC rr RBw HI4 HQ HSt
              go_wp2_with (go_at_call 15; refine (HOk.out ()).mono ?_; rintro e w6 ⟨rfl, hb6⟩; have X6 := (hb6.block p (Array.getElem?_eq_some_iff.1 HBox.out).1).trans HBox.out; have v2 := run_cell (j := 2) X6 rfl; have R6 := (hb6.block (W.heap.size + 1) (Array.getElem?_eq_some_iff.1 HRBw.out).1).trans HRBw.out; have rz := run_cell (j := 0) R6 rfl; have rf := run_frozen (j := 0) R6)
              refine bodyPost_ret (by simp [results, Try.results56, go_sem, rz]; try rfl) rfl ?_
              refine ⟨_, rfl, ?_, ?_⟩
              · exact Held.away ((HHe.out.fr (FrA.below hb6)).fr (FrA.set _ HAR.out)) (fun k _ a => HAA.out k a)
              · have B6 : Below W.heap.size W w6 := HBW2.out.trans ((HB4.out.trans (hb6.mono HB4.out.size)).mono HBW2.out.size)
                exact B6.setCell (Nat.le_succ _) _

end Go.Proofs.Ytipkbkhnaekceaa
