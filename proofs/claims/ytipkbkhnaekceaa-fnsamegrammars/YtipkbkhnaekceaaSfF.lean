/- The specification's l11Form (printed by mk/sff.py). -/
import Derived.Test.YtipkbkhnaekceaaSfF0
namespace Go.Proofs.Ytipkbkhnaekceaa
open Go.RowKit
set_option linter.unusedVariables false

/-- Within l11Form: the surface's box, and how often each node is used. -/
structure FoI (ns : List SNodeD) (rs : List SRuleD) (W : World) (an ar : Option Addr) (cn cr : Nat) (us : List Int) (w : World) : Prop where
  box : w.heap[W.heap.size]? = some (.cells #[.slice an ns.length cn, .slice ar rs.length cr] 81 (0, 0))
  u : w.ownsRow (W.heap.size + 1) 3 1 (.slice (some ⟨W.heap.size + 1, 0, none⟩) ns.length ns.length) ns.length (zv us)
  bel : Below W.heap.size W w
section
variable {ns : List SNodeD} {rs : List SRuleD} {W : World} {an ar : Option Addr} {cn cr : Nat} {us : List Int} {w w' : World}
theorem FoI.step (h : FoI ns rs W an ar cn cr us w) (hb : Below w.heap.size w w') : FoI ns rs W an ar cn cr us w' :=
  ⟨(hb.block _ (Array.getElem?_eq_some_iff.1 h.box).1).trans h.box, own_below h.u hb, h.bel.trans (hb.mono h.bel.size)⟩
theorem FoI.len (h : FoI ns rs W an ar cn cr us w) : us.length = ns.length := by
  have := h.u.1
  simpa [zv] using this
theorem FoI.cell (h : FoI ns rs W an ar cn cr us w) {z : Nat} (hz : z < us.length) : w.cell? ⟨W.heap.size + 1, z, none⟩ = some (.int .i64 us[z]) := by
  have := World.ownsRow.cells h.u (g := W.heap.size + 1) rfl z (.int .i64 us[z]) (by simp [zv, hz])
  rw [Addr.add_lit, Nat.zero_add] at this
  exact this
theorem FoI.froz (h : FoI ns rs W an ar cn cr us w) {z : Nat} (hz : z < us.length) : w.frozen? ⟨W.heap.size + 1, z, none⟩ = false := by
  have hl := h.len
  obtain ⟨_, _, f⟩ := own_cell h.u z (by omega)
  exact f
theorem FoI.set (h : FoI ns rs W an ar cn cr us w) {z : Nat} (hz : z < us.length) : FoI ns rs W an ar cn cr (addU us (z : Int)) (w.setCell ⟨W.heap.size + 1, z, none⟩ (.int .i64 (us[z] + 1))) := by
  refine ⟨(setCell_other _ (by omega)).trans h.box, ?_, h.bel.setCell (Nat.le_succ _) _⟩
  rw [zv_addU us z hz]
  exact (World.ownsRow.stored h.u z _).1
end
def RulesInS (rs : List SRuleD) : Prop := ∀ r ∈ rs, r.name.size ≤ 1048576 ∧ r.params.length ≤ 1048576 ∧ ∀ s ∈ r.params, s.size ≤ 1048576
/-- A surface within bounds. -/
structure SurfIn (ns : List SNodeD) (rs : List SRuleD) : Prop where
  nl : ns.length ≤ 100000
  rl : rs.length ≤ 100000
  kl : ∀ x ∈ ns, x.kids.length ≤ 10000000 ∧ x.args.length ≤ 10000000
  lf : LeafsIn ns
  rn : RulesInS rs
set_option maxHeartbeats 25600000 in
set_option maxRecDepth 100000 in
theorem form_any (ns : List SNodeD) (rs : List SRuleD) (hI : SurfIn ns rs) (nv rv : Value) (W : World) (hN : SNs W nv ns) (hR : SRs W rv rs) :
    Calls Try.prog 55 #[.agg #[nv, rv]] W fun e w' => e = .returned (.bool (formB ns rs)) ∧ Below W.heap.size W w' := by
  obtain ⟨i0, hi, hz0, hz1, hz2⟩ := info_parts Try.infoInt5
  obtain ⟨an, cn, rfl⟩ := RowC.slice hN
  obtain ⟨ar, cr, rfl⟩ := RowC.slice hR
  have HN0 : Hid (SNs W (.slice an ns.length cn) ns) := hN
  have HR0 : Hid (SRs W (.slice ar rs.length cr) rs) := hR
  have S1 : Hid (SBox ns rs W an ar cn cr (W.alloc (.cells #[.slice an ns.length cn, .slice ar rs.length cr] 81))) := sbox_of hN hR
  have c0 := run_cell (j := 0) S1.out.box rfl
  have c1 := run_cell (j := 1) S1.out.box rfl
  have HIn : Hid (∀ (n lo hi : Int) (W : World), Calls Try.prog 29 #[.int .i64 n, .int .i64 lo, .int .i64 hi] W fun e w' => e = .returned (.bool (inS n lo hi)) ∧ w' = W) := fun n lo hi W => in_any n lo hi W
  have HI : Hid (SurfIn ns rs) := hI
  have hnl := hI.nl
  have hrl := hI.rl
  have HB1 : Hid (Below W.heap.size W (W.alloc (.cells #[.slice an ns.length cn, .slice ar rs.length cr] 81))) := S1.out.bel
  clear hN hR hI
  by_cases hn : ns.length ≤ 120
  rotate_left
  · have d1 : decide ((120 : Int) < (ns.length : Int)) = true := decide_eq_true (by omega)
    have d2 : decide (120 < ns.length) = true := decide_eq_true (by omega)
    have HV : Hid (formB ns rs = false) := form_size hn
    clear hn
    go_enter Try.func55, Try.ntmps55
    go_wp2
    go_ret
    rw [HV.out]
    exact ⟨rfl, HB1.out⟩
  have d1 : decide ((120 : Int) < (ns.length : Int)) = false := decide_eq_false (by omega)
  have d2 : decide (120 < ns.length) = false := decide_eq_false (by omega)
  by_cases hr : 1 ≤ rs.length ∧ rs.length ≤ 8
  rotate_left
  · have HIr : Hid (inS (rs.length : Int) 1 8 = false) := decide_eq_false (by omega)
    have HV : Hid (formB ns rs = false) := form_rules hr
    clear hr
    go_enter Try.func55, Try.ntmps55
    go_wp2_with (go_at_call 29; refine (HIn.out _ _ _ _).mono ?_; rintro e wj ⟨rfl, hw⟩; rw [hw, HIr.out]; clear hw)
    go_ret
    rw [HV.out]
    exact ⟨rfl, HB1.out⟩
  have HIr : Hid (inS (rs.length : Int) 1 8 = true) := decide_eq_true (by omega)
  have Hr : Hid (1 ≤ rs.length ∧ rs.length ≤ 8) := hr
  have hr8 := hr.2
  clear hr
  go_enter Try.func55, Try.ntmps55
  go_wp2_with (first | (go_at_call 29; refine (HIn.out _ _ _ _).mono ?_; rintro e wj ⟨rfl, hw⟩; rw [hw, HIr.out]; clear hw) | (at_make; refine wpList_make_full _ rfl _ _ 70 rfl (W.heap.size + 1) 3 i0 _ 1 Try.underlying70 hi hz0 hz1 .i64 .i64 _ _ ns.length rfl rfl rfl rfl (by rw [hz2]; omega) (by unfold maxLen; omega) (by simp) ?_; intro w1 hown hg1))
  have HF1 : Hid (FoI ns rs W an ar cn cr (List.replicate ns.length 0) w1) := by
    have e : (W.alloc (.cells #[.slice an ns.length cn, .slice ar rs.length cr] 81)).heap.size = W.heap.size + 1 := by simp
    have hb : Below (W.alloc (.cells #[.slice an ns.length cn, .slice ar rs.length cr] 81)).heap.size (W.alloc (.cells #[.slice an ns.length cn, .slice ar rs.length cr] 81)) w1 := (Below.refl _ _).grown hg1 (Nat.le_refl _) (fun k h => by cases h)
    refine ⟨(hb.block _ (by rw [e]; omega)).trans S1.out.box, ?_, S1.out.bel.trans (hb.mono (by rw [e]; omega))⟩
    rw [e] at hown
    have e2 : (madeCells (Value.int .i64 0).cells (ns.length * 1)).toList = zv (List.replicate ns.length 0) := by
      rw [Nat.mul_one, zv, List.map_replicate, show (Value.int .i64 0).cells = #[.int .i64 0] from rfl, toList_madeCells_one]
    rw [e2] at hown
    exact hown
  clear hown hg1 c0 c1 HB1 S1 HIr
  go_loopg [4] ns.length (fun gg iv wr => ∃ (i : Nat) (us : List Int), iv = .int .i64 i ∧ gg + i = ns.length ∧ (List.range i).all (fun i => shapeS ns i (ns.getD i default)) = true ∧ us = usesN (List.replicate ns.length 0) (ns.take i) ∧ BdU us (8 * i) ∧ FoI ns rs W an ar cn cr us wr)
  case atStart => exact ⟨0, _, rfl, by omega, rfl, rfl, bdU_zero _, HF1.out⟩
  case round =>
    obtain ⟨i, us, rfl, hg, hall, hus, hbd, hfo⟩ := hrel
    have HAll : Hid ((List.range i).all (fun i => shapeS ns i (ns.getD i default)) = true) := hall
    have HUs : Hid (us = usesN (List.replicate ns.length 0) (ns.take i)) := hus
    have HBd : Hid (BdU us (8 * i)) := hbd
    have HFo : Hid (FoI ns rs W an ar cn cr us wr) := hfo
    have c0 := run_cell (j := 0) hfo.box rfl
    have c1 := run_cell (j := 1) hfo.box rfl
    clear hall hus hbd hfo HF1
    rename World => wo
    by_cases hlt : i < ns.length
    · have i1 : (i : Int) < (ns.length : Int) := by omega
      have dl : decide ((i : Int) < (ns.length : Int)) = true := decide_eq_true i1
      have HSh : Hid (∀ _ : Unit, _) := fun _ => shape_any ns rs (.slice an ns.length cn) (.slice ar rs.length cr) wo i (sNs_below HN0.out HFo.out.bel) (sRs_below HR0.out HFo.out.bel) hlt hnl (HI.out.kl _ (List.getElem_mem _)).1 (HI.out.kl _ (List.getElem_mem _)).2
      cases hs : shapeS ns i ns[i] with
      | false =>
        have HV : Hid (formB ns rs = false) := form_shape hlt hs
        rw [hs] at HSh
        clear hs
        go_wp2_with (go_at_call 71; refine (HSh.out ()).mono ?_; rintro e w2 ⟨rfl, hb2⟩)
        have HB2 : Hid (Below W.heap.size W w2) := HFo.out.bel.trans (hb2.mono HFo.out.bel.size)
        clear hb2
        go_ret
        rw [HV.out]
        exact ⟨rfl, HB2.out⟩
      | true =>
        have HShF : Hid (ShF ns i ns[i]) := shF_of hs
        have HA2 : Hid ((List.range (i + 1)).all (fun i => shapeS ns i (ns.getD i default)) = true) := by rw [Hid, range_all_next, HAll.out, getD_lt _ _ hlt, hs]; rfl
        have hk8 : ns[i].kids.length ≤ 8 := by
          by_cases h5 : ns[i].kind = 5
          · exact HShF.out.row h5
          · by_cases h6 : ns[i].kind = 6
            · exact (HShF.out.alt h6).2
            · by_cases h7 : 6 < ns[i].kind
              · have := HShF.out.one h7; omega
              · rw [HShF.out.leaf (by omega)]; simp
        rw [hs] at HSh
        obtain ⟨f1, rfl⟩ : ∃ f, gk = f + 1 := ⟨gk - 1, by omega⟩
        clear hs
        go_wp2_with (go_at_call 71; refine (HSh.out ()).mono ?_; rintro e w2 ⟨rfl, hb2⟩)
        have HF2 : Hid (FoI ns rs W an ar cn cr us w2) := HFo.out.step hb2
        clear hb2 HSh HFo c0 c1
        go_loopg [5] ns[i].kids.length (fun gg kv wr => ∃ (k : Nat) (vs : List Int), kv = .int .i64 k ∧ gg + k = ns[i].kids.length ∧ vs = (ns[i].kids.take k).foldl addU us ∧ BdU vs (8 * i + k) ∧ FoI ns rs W an ar cn cr vs wr)
        case atStart => exact ⟨0, us, rfl, by omega, rfl, bdU_mono HBd.out (by omega), HF2.out⟩
        case round =>
          obtain ⟨k, vs, rfl, hg2, hvs, hbd, hfo⟩ := hrel
          have HVs : Hid (vs = (ns[i].kids.take k).foldl addU us) := hvs
          have HBv : Hid (BdU vs (8 * i + k)) := hbd
          have HFv : Hid (FoI ns rs W an ar cn cr vs wr) := hfo
          have c0 := run_cell (j := 0) hfo.box rfl
          obtain ⟨b, off, aa, ca, ka, ck, rfl, _, _, _, _, n4, _, hZ⟩ := sNs_at (sNs_below HN0.out hfo.bel) hlt
          clear hvs hbd hfo HF2
          by_cases hk : k < ns[i].kids.length
          · have i2 : (k : Int) < (ns[i].kids.length : Int) := by omega
            have dk : decide ((k : Int) < (ns[i].kids.length : Int)) = true := decide_eq_true i2
            obtain ⟨kb, ko, rfl, hkc⟩ := hZ.at hk
            obtain ⟨a1, a2, _, _, _⟩ := HShF.out.kids _ (List.getElem_mem hk)
            obtain ⟨z, hz⟩ : ∃ z : Nat, ns[i].kids[k] = (z : Int) := ⟨ns[i].kids[k].toNat, by omega⟩
            have hzl : z < vs.length := by have := HFv.out.len; omega
            have hzn : z < ns.length := by omega
            have i3 : (z : Int) < (ns.length : Int) := by omega
            have hbz := HBv.out _ (List.getElem_mem hzl)
            have u0 := HFv.out.cell hzl
            have u1 := HFv.out.froz hzl
            have wz : IntKind.i64.wrap (vs[z] + 1) = vs[z] + 1 := by rw [IntKind.wrap_i64]; omega
            have HF3 : Hid (FoI ns rs W (some ⟨b, off, none⟩) ar cn cr (addU vs (z : Int)) (wr.setCell ⟨W.heap.size + 1, z, none⟩ (.int .i64 (vs[z] + 1)))) := HFv.out.set hzl
            have HV3 : Hid (addU vs (z : Int) = (ns[i].kids.take (k + 1)).foldl addU us) := by rw [Hid, foldl_next addU us _ _ hk, ← HVs.out, hz]
            have HB3 : Hid (BdU (addU vs (z : Int)) (8 * i + (k + 1 : Nat))) := bdU_mono (addU_bd HBv.out _) (by omega)
            have w1 : IntKind.i64.wrap ((k : Int) + 1) = ((k + 1 : Nat) : Int) := by rw [IntKind.wrap_i64]; omega
            obtain ⟨f2, rfl⟩ : ∃ f, gk = f + 1 := ⟨gk - 1, by omega⟩
            rw [hz] at hkc
            clear hz a1 a2 hZ hbz HFv HVs HBv
            generalize vs[z] = vz at *
            go_wp2
            go_roundg f2
            case measure => omega
            case rel => exact ⟨k + 1, _, by go_num, by omega, HV3.out, HB3.out, HF3.out⟩
          · have dk : decide ((k : Int) < (ns[i].kids.length : Int)) = false := decide_eq_false (by omega)
            have HV3 : Hid (vs = usesN (List.replicate ns.length 0) (ns.take (i + 1))) := by rw [Hid, usesN, foldl_next _ _ _ _ hlt, ← usesN, ← HUs.out, HVs.out, List.take_of_length_le (by omega)]
            have HB3 : Hid (BdU vs (8 * (i + 1 : Nat))) := bdU_mono HBv.out (by omega)
            have w1 : IntKind.i64.wrap ((i : Int) + 1) = ((i + 1 : Nat) : Int) := by rw [IntKind.wrap_i64]; omega
            clear HVs HBv hZ
            go_wp2
            go_roundg f1
            case measure => omega
            case rel => exact ⟨i + 1, vs, by go_num, by omega, HA2.out, HV3.out, HB3.out, HFv.out⟩
    · have dl : decide ((i : Int) < (ns.length : Int)) = false := decide_eq_false (by omega)
      obtain rfl : i = ns.length := by omega
      have HShd : Hid (Shaped ns) := shaped_of HAll.out
      have HU0 : Hid (us = usesN (List.replicate ns.length 0) ns) := by rw [Hid, HUs.out, List.take_of_length_le (Nat.le_refl _)]
      have HBd0 : Hid (BdU us 1000) := bdU_mono HBd.out (by omega)
      have HFo0 : Hid (FoI ns rs W an ar cn cr us wo) := HFo.out
      clear HUs HBd HFo hg
      go_wp2
      clear c0 c1
      go_loopg [6] rs.length (fun gg iv wr => ∃ (i : Nat) (vs : List Int), iv = .int .i64 i ∧ gg + i = rs.length ∧ (List.range i).all (fun i => ruleS ns rs i (rs.getD i default)) = true ∧ vs = usesR us (rs.take i) ∧ BdU vs (1000 + i) ∧ FoI ns rs W an ar cn cr vs wr)
      case atStart => exact ⟨0, us, rfl, by omega, rfl, rfl, bdU_mono HBd0.out (by omega), HFo0.out⟩
      case round =>
        obtain ⟨i, vs, rfl, hg, hall, hvs, hbd, hfo⟩ := hrel
        have HAlr : Hid ((List.range i).all (fun i => ruleS ns rs i (rs.getD i default)) = true) := hall
        have HVs : Hid (vs = usesR us (rs.take i)) := hvs
        have HBd : Hid (BdU vs (1000 + i)) := hbd
        have HFo : Hid (FoI ns rs W an ar cn cr vs wr) := hfo
        have c0 := run_cell (j := 0) hfo.box rfl
        have c1 := run_cell (j := 1) hfo.box rfl
        clear hall hvs hbd hfo HFo0
        rename World => wq
        by_cases hlt : i < rs.length
        · have i1 : (i : Int) < (rs.length : Int) := by omega
          have dl : decide ((i : Int) < (rs.length : Int)) = true := decide_eq_true i1
          obtain ⟨b, off, pa, pc, rfl, r0w, r1w, r2w, hPw⟩ := sRs_at HR0.out hlt
          have r0 := cell_keep r0w HFo.out.bel
          have r1 := cell_keep r1w HFo.out.bel
          have r2 := cell_keep r2w HFo.out.bel
          have HPW : Hid (SRow W (.slice pa rs[i].params.length pc) rs[i].params) := hPw
          have bal : Below wq.heap.size wq (wq.alloc (.cells #[.string rs[i].name, .slice pa rs[i].params.length pc, .int .i64 rs[i].body] 104)) := (Below.refl _ _).alloc (Nat.le_refl _) _
          have X3 := heap_alloc_new wq (.cells #[.string rs[i].name, .slice pa rs[i].params.length pc, .int .i64 rs[i].body] 104)
          have HX3 : Hid _ := X3
          have HF3 : Hid (FoI ns rs W an (some ⟨b, off, none⟩) cn cr vs (wq.alloc (.cells #[.string rs[i].name, .slice pa rs[i].params.length pc, .int .i64 rs[i].body] 104))) := HFo.out.step bal
          have x0 := run_cell (j := 0) X3 rfl
          have x1 := run_cell (j := 1) X3 rfl
          have x2 := run_cell (j := 2) X3 rfl
          have d0 := run_cell (j := 0) HF3.out.box rfl
          have d1' := run_cell (j := 1) HF3.out.box rfl
          have wn : IntKind.i64.wrap ((ns.length : Int) - 1) = (ns.length : Int) - 1 := by rw [IntKind.wrap_i64]; omega
          have HIb : Hid (inS rs[i].body 0 ((ns.length : Int) - 1) = decide (0 ≤ rs[i].body ∧ rs[i].body ≤ (ns.length : Int) - 1)) := rfl
          have HNo : Hid (ruleS ns rs i rs[i] = false → formB ns rs = false) := fun h => form_rule hlt h
          have hwq : W.heap.size + 1 < wq.heap.size := (World.ownsRow.lt HFo.out.u (W.heap.size + 1) rfl).2
          have HRu0 : Hid (ruleS ns rs i rs[i] = (decide (0 ≤ rs[i].body ∧ rs[i].body ≤ (ns.length : Int) - 1) && decide ((nodeS ns rs[i].body).kind = 6) && ruleNameB rs[i].name && paramsB rs[i].params && !(decide (i = 0 ∧ 0 < rs[i].params.length)) && (rs.take i).all fun q => !(decide (q.name = rs[i].name)))) := rfl
          have HV0 : Hid (addU vs rs[i].body = usesR us (rs.take (i + 1))) := by rw [Hid, usesR, foldl_next _ _ _ _ hlt, ← usesR, ← HVs.out]
          clear X3 bal hPw r0w r1w r2w
          generalize rs[i].body = bo at *
          by_cases hbr : 0 ≤ bo ∧ bo ≤ (ns.length : Int) - 1
          rotate_left
          · rw [decide_eq_false hbr] at HIb
            have HV : Hid (formB ns rs = false) := HNo.out (by rw [HRu0.out, decide_eq_false hbr]; rfl)
            clear hbr HRu0
            go_wp2_with (go_at_call 29; refine (HIn.out _ _ _ _).mono ?_; rintro e wj ⟨rfl, hw⟩; rw [hw, HIb.out]; clear hw)
            go_ret
            rw [HV.out]
            exact ⟨rfl, HF3.out.bel⟩
          · rw [decide_eq_true hbr] at HIb
            obtain ⟨z, rfl⟩ : ∃ z : Nat, bo = (z : Int) := ⟨bo.toNat, by omega⟩
            have hzn : z < ns.length := by omega
            have i3 : (z : Int) < (ns.length : Int) := by omega
            obtain ⟨g, of, _, _, _, _, rfl, n0, _, _, _, _, _, _⟩ := sNs_at (sNs_below HN0.out HF3.out.bel) hzn
            have HRu1 : ruleS ns rs i rs[i] = (decide (ns[z].kind = 6) && ruleNameB rs[i].name && paramsB rs[i].params && !(decide (i = 0 ∧ 0 < rs[i].params.length)) && (rs.take i).all fun q => !(decide (q.name = rs[i].name))) := by rw [HRu0.out, decide_eq_true hbr, Bool.true_and, nodeS_is hzn]
            clear hbr HRu0
            by_cases hk6 : ns[z].kind = 6
            rotate_left
            · have q6 : (ns[z].kind != 6) = true := by rw [bne_iff_ne]; exact hk6
              have HV : Hid (formB ns rs = false) := HNo.out (by rw [HRu1, decide_eq_false hk6]; rfl)
              clear hk6 HRu1
              generalize ns[z].kind = kd at *
              go_wp2_with (go_at_call 29; refine (HIn.out _ _ _ _).mono ?_; rintro e wj ⟨rfl, hw⟩; rw [hw, HIb.out]; clear hw)
              go_ret
              rw [HV.out]
              exact ⟨rfl, HF3.out.bel⟩
            · rw [decide_eq_true hk6, Bool.true_and] at HRu1
              rw [hk6] at n0
              have HRu : Hid _ := HRu1
              clear hk6 HRu1
              have hzl : z < vs.length := by have := HF3.out.len; omega
              have hbz := HBd.out _ (List.getElem_mem hzl)
              have u0 := HF3.out.cell hzl
              have u1 := HF3.out.froz hzl
              have wz : IntKind.i64.wrap (vs[z] + 1) = vs[z] + 1 := by rw [IntKind.wrap_i64]; omega
              have HFs : FoI ns rs W (some ⟨g, of, none⟩) (some ⟨b, off, none⟩) cn cr (addU vs (z : Int)) (wq.setCell ⟨W.heap.size + 1, z, none⟩ (.int .i64 (vs[z] + 1))) := HFo.out.set hzl
              have HF4 : Hid (FoI ns rs W (some ⟨g, of, none⟩) (some ⟨b, off, none⟩) cn cr (addU vs (z : Int)) ((wq.setCell ⟨W.heap.size + 1, z, none⟩ (.int .i64 (vs[z] + 1))).alloc (.cells #[.string rs[i].name, .slice pa rs[i].params.length pc, .int .i64 z] 104))) := HFs.step ((Below.refl _ _).alloc (Nat.le_refl _) _)
              have HX4 : Hid (((wq.setCell ⟨W.heap.size + 1, z, none⟩ (.int .i64 (vs[z] + 1))).alloc (.cells #[.string rs[i].name, .slice pa rs[i].params.length pc, .int .i64 z] 104)).heap[wq.heap.size]? = some (.cells #[.string rs[i].name, .slice pa rs[i].params.length pc, .int .i64 z] 104)) := by
                have h := heap_alloc_new (wq.setCell ⟨W.heap.size + 1, z, none⟩ (.int .i64 (vs[z] + 1))) (.cells #[.string rs[i].name, .slice pa rs[i].params.length pc, .int .i64 z] 104)
                rwa [show (wq.setCell ⟨W.heap.size + 1, z, none⟩ (.int .i64 (vs[z] + 1))).heap.size = wq.heap.size by simp [World.setCell]] at h
              have HV4 : Hid (addU vs (z : Int) = usesR us (rs.take (i + 1))) := HV0.out
              have HB4 : Hid (BdU (addU vs (z : Int)) (1000 + (i + 1 : Nat))) := bdU_mono (addU_bd HBd.out _) (by omega)
              have hsz := HI.out.rn _ (List.getElem_mem hlt)
              have P4 : Hid (∀ V, Below W.heap.size W V → SRow V (.slice pa rs[i].params.length pc) rs[i].params) := fun V hb => HPW.out.below hb
              have y0 := run_cell (j := 0) HX4.out rfl
              have y1 := run_cell (j := 1) HX4.out rfl
              have HNm : Hid (∀ V, _) := fun V => specRuleName_any rs[i].name V hsz.1
              have HPm : Hid (∀ V, SRow V (.slice pa rs[i].params.length pc) rs[i].params → _) := fun V h => l06Params_any (.slice pa rs[i].params.length pc) rs[i].params V hsz.2.1 hsz.2.2 h
              have hpl : rs[i].params.length ≤ 1048576 := hsz.2.1
              clear hsz hbz HF3 HX3 HBd HVs HV0 HFs
              generalize vs[z] = vz at *
              cases hnm : ruleNameB rs[i].name with
              | false =>
                have HV : Hid (formB ns rs = false) := HNo.out (by rw [HRu.out, hnm]; rfl)
                rw [hnm] at HNm
                clear hnm
                go_wp2_with (first | (go_at_call 29; refine (HIn.out _ _ _ _).mono ?_; rintro e wj ⟨rfl, hw⟩; rw [hw, HIb.out]; clear hw) | (go_at_call 42; refine (HNm.out _).mono ?_; rintro e wk ⟨rfl, hw⟩; rw [hw]; clear hw))
                go_ret
                rw [HV.out]
                exact ⟨rfl, HF4.out.bel⟩
              | true =>
                rw [hnm] at HNm
                cases hpm : paramsB rs[i].params with
                | false =>
                  have HV : Hid (formB ns rs = false) := HNo.out (by rw [HRu.out, hnm, hpm]; rfl)
                  rw [hpm] at HPm
                  clear hnm hpm
                  go_wp2_with (first | (go_at_call 29; refine (HIn.out _ _ _ _).mono ?_; rintro e wj ⟨rfl, hw⟩; rw [hw, HIb.out]; clear hw) | (go_at_call 42; refine (HNm.out _).mono ?_; rintro e wk ⟨rfl, hw⟩; rw [hw]; clear hw) | (go_at_call 43; refine (HPm.out _ (P4.out _ HF4.out.bel)).mono ?_; rintro e w5 ⟨rfl, q5, rfl⟩; have x5 : (World.drewN ((wq.setCell ⟨W.heap.size + 1, z, none⟩ (.int .i64 (vz + 1))).alloc (.cells #[.string rs[i].name, .slice pa rs[i].params.length pc, .int .i64 z] 104)) q5).cell? ⟨wq.heap.size, 1, none⟩ = some (.slice pa rs[i].params.length pc) := y1))
                  go_ret
                  rw [HV.out]
                  exact ⟨rfl, bel_drewN HF4.out.bel _⟩
                | true =>
                  rw [hpm] at HPm
                  have HRv : Hid (ruleS ns rs i rs[i] = (!(decide (i = 0 ∧ 0 < rs[i].params.length)) && (rs.take i).all fun q => !(decide (q.name = rs[i].name)))) := by rw [Hid, HRu.out, hnm, hpm]; rfl
                  clear hnm hpm HRu
                  by_cases hi0 : i = 0
                  · have e0 : ((i : Int) == 0) = true := by rw [hi0]; rfl
                    by_cases hp0 : 0 < rs[i].params.length
                    · have dp : decide ((0 : Int) < (rs[i].params.length : Int)) = true := decide_eq_true (by omega)
                      have dp2 : decide (0 < rs[i].params.length) = true := decide_eq_true hp0
                      have HV : Hid (formB ns rs = false) := HNo.out (by rw [HRv.out, decide_eq_true ⟨hi0, hp0⟩]; rfl)
                      clear hi0 hp0
                      go_wp2_with (first | (go_at_call 29; refine (HIn.out _ _ _ _).mono ?_; rintro e wj ⟨rfl, hw⟩; rw [hw, HIb.out]; clear hw) | (go_at_call 42; refine (HNm.out _).mono ?_; rintro e wk ⟨rfl, hw⟩; rw [hw]; clear hw) | (go_at_call 43; refine (HPm.out _ (P4.out _ HF4.out.bel)).mono ?_; rintro e w5 ⟨rfl, q5, rfl⟩; have x5 : (World.drewN ((wq.setCell ⟨W.heap.size + 1, z, none⟩ (.int .i64 (vz + 1))).alloc (.cells #[.string rs[i].name, .slice pa rs[i].params.length pc, .int .i64 z] 104)) q5).cell? ⟨wq.heap.size, 1, none⟩ = some (.slice pa rs[i].params.length pc) := y1))
                      go_ret
                      rw [HV.out]
                      exact ⟨rfl, bel_drewN HF4.out.bel _⟩
                    · have dp : decide ((0 : Int) < (rs[i].params.length : Int)) = false := decide_eq_false (by omega)
                      have dp2 : decide (0 < rs[i].params.length) = false := decide_eq_false hp0
                      have HRw : Hid (ruleS ns rs i rs[i] = (rs.take i).all fun q => !(decide (q.name = rs[i].name))) := by rw [Hid, HRv.out, decide_eq_false (fun h => hp0 h.2)]; rfl
                      clear hi0 hp0 HRv
                      go_wp2_with (first | (go_at_call 29; refine (HIn.out _ _ _ _).mono ?_; rintro e wj ⟨rfl, hw⟩; rw [hw, HIb.out]; clear hw) | (go_at_call 42; refine (HNm.out _).mono ?_; rintro e wk ⟨rfl, hw⟩; rw [hw]; clear hw) | (go_at_call 43; refine (HPm.out _ (P4.out _ HF4.out.bel)).mono ?_; rintro e w5 ⟨rfl, q5, rfl⟩; have x5 : (World.drewN ((wq.setCell ⟨W.heap.size + 1, z, none⟩ (.int .i64 (vz + 1))).alloc (.cells #[.string rs[i].name, .slice pa rs[i].params.length pc, .int .i64 z] 104)) q5).cell? ⟨wq.heap.size, 1, none⟩ = some (.slice pa rs[i].params.length pc) := y1))
                      have HF5 : Hid (FoI ns rs W (some ⟨g, of, none⟩) (some ⟨b, off, none⟩) cn cr (addU vs (z : Int)) (World.drewN ((wq.setCell ⟨W.heap.size + 1, z, none⟩ (.int .i64 (vz + 1))).alloc (.cells #[.string rs[i].name, .slice pa rs[i].params.length pc, .int .i64 z] 104)) q5)) := HF4.out.step (bel_drewN (Below.refl _ _) q5)
                      have HX5 : Hid ((World.drewN ((wq.setCell ⟨W.heap.size + 1, z, none⟩ (.int .i64 (vz + 1))).alloc (.cells #[.string rs[i].name, .slice pa rs[i].params.length pc, .int .i64 z] 104)) q5).heap[wq.heap.size]? = some (.cells #[.string rs[i].name, .slice pa rs[i].params.length pc, .int .i64 z] 104)) := HX4.out
                      obtain ⟨f1, rfl⟩ : ∃ f, gk = f + 1 := ⟨gk - 1, by omega⟩
                      clear HF4 HX4 y0 y1 P4 HNm HPm u0 u1 x0 x1 x2 d0 d1' x5 c0 c1 r0 r1 r2
                      generalize World.drewN ((wq.setCell ⟨W.heap.size + 1, z, none⟩ (.int .i64 (vz + 1))).alloc (.cells #[.string rs[i].name, .slice pa rs[i].params.length pc, .int .i64 z] 104)) q5 = w5 at *
                      go_loopg [8] i (fun gg kv wr => ∃ k : Nat, kv = .int .i64 k ∧ gg + k = i ∧ (rs.take k).all (fun q => !(decide (q.name = rs[i].name))) = true ∧ FoI ns rs W (some ⟨g, of, none⟩) (some ⟨b, off, none⟩) cn cr (addU vs (z : Int)) wr ∧ wr.heap[wq.heap.size]? = some (.cells #[.string rs[i].name, .slice pa rs[i].params.length pc, .int .i64 z] 104))
                      case atStart => exact ⟨0, rfl, by omega, rfl, HF5.out, HX5.out⟩
                      case round =>
                        obtain ⟨k, rfl, hg2, hall, hfo, hx⟩ := hrel
                        have HAn : Hid ((rs.take k).all (fun q => !(decide (q.name = rs[i].name))) = true) := hall
                        have HF6 : Hid (FoI ns rs W (some ⟨g, of, none⟩) (some ⟨b, off, none⟩) cn cr (addU vs (z : Int)) wr) := hfo
                        have HX6 : Hid (wr.heap[wq.heap.size]? = some (.cells #[.string rs[i].name, .slice pa rs[i].params.length pc, .int .i64 z] 104)) := hx
                        have c1 := run_cell (j := 1) hfo.box rfl
                        have x0 := run_cell (j := 0) hx rfl
                        clear hall hfo hx HF5 HX5
                        by_cases hk : k < i
                        · have ik : (k : Int) < (rs.length : Int) := by omega
                          have dk : decide ((k : Int) < (i : Int)) = true := decide_eq_true (by omega)
                          obtain ⟨b', off', _, _, hbo, k0w, _, _, _⟩ := sRs_at HR0.out (show k < rs.length by omega)
                          obtain ⟨rfl, rfl⟩ : b = b' ∧ off = off' := by cases hbo; exact ⟨rfl, rfl⟩
                          have k0 := cell_keep k0w HF6.out.bel
                          have HNe : Hid ((rs.take (k + 1)).all (fun q => !(decide (q.name = rs[i].name))) = !(decide ((rs[k]'(by omega)).name = rs[i].name))) := by rw [Hid, all_take_next _ _ _ (show k < rs.length by omega), HAn.out, Bool.true_and]
                          have HEq : Hid ((rs[k]'(by omega)).name = rs[i].name → formB ns rs = false) := fun h => HNo.out (by
                            rw [HRw.out]
                            exact all_no (k := k) (by rw [List.length_take]; omega) (by rw [List.getElem_take]; simp only [h, decide_true, Bool.not_true]))
                          clear hbo k0w
                          by_cases hne : (rs[k]'(by omega)).name = rs[i].name
                          · have qs := beq_yes hne
                            have HV : Hid (formB ns rs = false) := HEq.out hne
                            clear hne HNe HEq
                            go_wp2
                            go_quiet (fail)
                            go_wp2
                            go_ret
                            rw [HV.out]
                            exact ⟨rfl, bel_drewN HF6.out.bel _⟩
                          · have qs := beq_no hne
                            rw [Hid, decide_eq_false hne] at HNe
                            have HNf : Hid _ := HNe
                            have w1 : IntKind.i64.wrap ((k : Int) + 1) = ((k + 1 : Nat) : Int) := by rw [IntKind.wrap_i64]; omega
                            obtain ⟨f2, rfl⟩ : ∃ f, gk = f + 1 := ⟨gk - 1, by omega⟩
                            clear hne HNe HEq
                            go_wp2
                            go_quiet (fail)
                            have HF7 : Hid (FoI ns rs W (some ⟨g, of, none⟩) (some ⟨b, off, none⟩) cn cr (addU vs (z : Int)) (wr.drewN nq)) := HF6.out.step (bel_drewN (Below.refl _ _) nq)
                            have HX7 : Hid ((wr.drewN nq).heap[wq.heap.size]? = some (.cells #[.string rs[i].name, .slice pa rs[i].params.length pc, .int .i64 z] 104)) := HX6.out
                            clear HF6 HX6
                            generalize wr.drewN nq = w7 at *
                            go_wp2
                            go_roundg f2
                            case measure => omega
                            case rel => exact ⟨k + 1, by go_num, by omega, HNf.out, HF7.out, HX7.out⟩
                        · have dk : decide ((k : Int) < (i : Int)) = false := decide_eq_false (by omega)
                          have hki : k = i := by omega
                          have HA2 : Hid ((List.range (i + 1)).all (fun i => ruleS ns rs i (rs.getD i default)) = true) := by
                            have h := HAn.out
                            rw [hki] at h
                            rw [Hid, range_all_next, HAlr.out, getD_lt _ _ hlt, HRw.out, h]; rfl
                          have w1 : IntKind.i64.wrap ((i : Int) + 1) = ((i + 1 : Nat) : Int) := by rw [IntKind.wrap_i64]; omega
                          clear HAn hki
                          go_wp2
                          go_roundg f1
                          case measure => omega
                          case rel => exact ⟨i + 1, _, by go_num, by omega, HA2.out, HV4.out, HB4.out, HF6.out⟩
                  · have e0 : ((i : Int) == 0) = false := by rw [beq_eq_false_iff_ne]; omega
                    have HRw : Hid (ruleS ns rs i rs[i] = (rs.take i).all fun q => !(decide (q.name = rs[i].name))) := by rw [Hid, HRv.out, decide_eq_false (fun h => hi0 h.1)]; rfl
                    clear hi0 HRv
                    go_wp2_with (first | (go_at_call 29; refine (HIn.out _ _ _ _).mono ?_; rintro e wj ⟨rfl, hw⟩; rw [hw, HIb.out]; clear hw) | (go_at_call 42; refine (HNm.out _).mono ?_; rintro e wk ⟨rfl, hw⟩; rw [hw]; clear hw) | (go_at_call 43; refine (HPm.out _ (P4.out _ HF4.out.bel)).mono ?_; rintro e w5 ⟨rfl, q5, rfl⟩; have x5 : (World.drewN ((wq.setCell ⟨W.heap.size + 1, z, none⟩ (.int .i64 (vz + 1))).alloc (.cells #[.string rs[i].name, .slice pa rs[i].params.length pc, .int .i64 z] 104)) q5).cell? ⟨wq.heap.size, 1, none⟩ = some (.slice pa rs[i].params.length pc) := y1))
                    have HF5 : Hid (FoI ns rs W (some ⟨g, of, none⟩) (some ⟨b, off, none⟩) cn cr (addU vs (z : Int)) (World.drewN ((wq.setCell ⟨W.heap.size + 1, z, none⟩ (.int .i64 (vz + 1))).alloc (.cells #[.string rs[i].name, .slice pa rs[i].params.length pc, .int .i64 z] 104)) q5)) := HF4.out.step (bel_drewN (Below.refl _ _) q5)
                    have HX5 : Hid ((World.drewN ((wq.setCell ⟨W.heap.size + 1, z, none⟩ (.int .i64 (vz + 1))).alloc (.cells #[.string rs[i].name, .slice pa rs[i].params.length pc, .int .i64 z] 104)) q5).heap[wq.heap.size]? = some (.cells #[.string rs[i].name, .slice pa rs[i].params.length pc, .int .i64 z] 104)) := HX4.out
                    obtain ⟨f1, rfl⟩ : ∃ f, gk = f + 1 := ⟨gk - 1, by omega⟩
                    clear HF4 HX4 y0 y1 P4 HNm HPm u0 u1 x0 x1 x2 d0 d1' x5 c0 c1 r0 r1 r2
                    generalize World.drewN ((wq.setCell ⟨W.heap.size + 1, z, none⟩ (.int .i64 (vz + 1))).alloc (.cells #[.string rs[i].name, .slice pa rs[i].params.length pc, .int .i64 z] 104)) q5 = w5 at *
                    go_loopg [8] i (fun gg kv wr => ∃ k : Nat, kv = .int .i64 k ∧ gg + k = i ∧ (rs.take k).all (fun q => !(decide (q.name = rs[i].name))) = true ∧ FoI ns rs W (some ⟨g, of, none⟩) (some ⟨b, off, none⟩) cn cr (addU vs (z : Int)) wr ∧ wr.heap[wq.heap.size]? = some (.cells #[.string rs[i].name, .slice pa rs[i].params.length pc, .int .i64 z] 104))
                    case atStart => exact ⟨0, rfl, by omega, rfl, HF5.out, HX5.out⟩
                    case round =>
                      obtain ⟨k, rfl, hg2, hall, hfo, hx⟩ := hrel
                      have HAn : Hid ((rs.take k).all (fun q => !(decide (q.name = rs[i].name))) = true) := hall
                      have HF6 : Hid (FoI ns rs W (some ⟨g, of, none⟩) (some ⟨b, off, none⟩) cn cr (addU vs (z : Int)) wr) := hfo
                      have HX6 : Hid (wr.heap[wq.heap.size]? = some (.cells #[.string rs[i].name, .slice pa rs[i].params.length pc, .int .i64 z] 104)) := hx
                      have c1 := run_cell (j := 1) hfo.box rfl
                      have x0 := run_cell (j := 0) hx rfl
                      clear hall hfo hx HF5 HX5
                      by_cases hk : k < i
                      · have ik : (k : Int) < (rs.length : Int) := by omega
                        have dk : decide ((k : Int) < (i : Int)) = true := decide_eq_true (by omega)
                        obtain ⟨b', off', _, _, hbo, k0w, _, _, _⟩ := sRs_at HR0.out (show k < rs.length by omega)
                        obtain ⟨rfl, rfl⟩ : b = b' ∧ off = off' := by cases hbo; exact ⟨rfl, rfl⟩
                        have k0 := cell_keep k0w HF6.out.bel
                        have HNe : Hid ((rs.take (k + 1)).all (fun q => !(decide (q.name = rs[i].name))) = !(decide ((rs[k]'(by omega)).name = rs[i].name))) := by rw [Hid, all_take_next _ _ _ (show k < rs.length by omega), HAn.out, Bool.true_and]
                        have HEq : Hid ((rs[k]'(by omega)).name = rs[i].name → formB ns rs = false) := fun h => HNo.out (by
                          rw [HRw.out]
                          exact all_no (k := k) (by rw [List.length_take]; omega) (by rw [List.getElem_take]; simp only [h, decide_true, Bool.not_true]))
                        clear hbo k0w
                        by_cases hne : (rs[k]'(by omega)).name = rs[i].name
                        · have qs := beq_yes hne
                          have HV : Hid (formB ns rs = false) := HEq.out hne
                          clear hne HNe HEq
                          go_wp2
                          go_quiet (fail)
                          go_wp2
                          go_ret
                          rw [HV.out]
                          exact ⟨rfl, bel_drewN HF6.out.bel _⟩
                        · have qs := beq_no hne
                          rw [Hid, decide_eq_false hne] at HNe
                          have HNf : Hid _ := HNe
                          have w1 : IntKind.i64.wrap ((k : Int) + 1) = ((k + 1 : Nat) : Int) := by rw [IntKind.wrap_i64]; omega
                          obtain ⟨f2, rfl⟩ : ∃ f, gk = f + 1 := ⟨gk - 1, by omega⟩
                          clear hne HNe HEq
                          go_wp2
                          go_quiet (fail)
                          have HF7 : Hid (FoI ns rs W (some ⟨g, of, none⟩) (some ⟨b, off, none⟩) cn cr (addU vs (z : Int)) (wr.drewN nq)) := HF6.out.step (bel_drewN (Below.refl _ _) nq)
                          have HX7 : Hid ((wr.drewN nq).heap[wq.heap.size]? = some (.cells #[.string rs[i].name, .slice pa rs[i].params.length pc, .int .i64 z] 104)) := HX6.out
                          clear HF6 HX6
                          generalize wr.drewN nq = w7 at *
                          go_wp2
                          go_roundg f2
                          case measure => omega
                          case rel => exact ⟨k + 1, by go_num, by omega, HNf.out, HF7.out, HX7.out⟩
                      · have dk : decide ((k : Int) < (i : Int)) = false := decide_eq_false (by omega)
                        have hki : k = i := by omega
                        have HA2 : Hid ((List.range (i + 1)).all (fun i => ruleS ns rs i (rs.getD i default)) = true) := by
                          have h := HAn.out
                          rw [hki] at h
                          rw [Hid, range_all_next, HAlr.out, getD_lt _ _ hlt, HRw.out, h]; rfl
                        have w1 : IntKind.i64.wrap ((i : Int) + 1) = ((i + 1 : Nat) : Int) := by rw [IntKind.wrap_i64]; omega
                        clear HAn hki
                        go_wp2
                        go_roundg f1
                        case measure => omega
                        case rel => exact ⟨i + 1, _, by go_num, by omega, HA2.out, HV4.out, HB4.out, HF6.out⟩
        · have dl : decide ((i : Int) < (rs.length : Int)) = false := decide_eq_false (by omega)
          obtain rfl : i = rs.length := by omega
          have HUS : Hid (vs = usesR (usesN (List.replicate ns.length 0) ns) rs) := by rw [Hid, HVs.out, List.take_of_length_le (Nat.le_refl _), HU0.out]
          clear HVs HBd hg
          go_wp2
          have hvl : vs.length = ns.length := HFo.out.len
          have HVL : Hid (vs.length = ns.length) := hvl
          clear hvl
          go_loopg [9] ns.length (fun gg kv wr => ∃ k : Nat, kv = .int .i64 k ∧ gg + k = ns.length ∧ (vs.take k).all (fun u => decide (u = 1)) = true ∧ wr = wq)
          case atStart => exact ⟨0, rfl, by omega, rfl, rfl⟩
          case round =>
            obtain ⟨k, rfl, hg, hall, hwr⟩ := hrel
            rw [hwr]
            have HAu : Hid ((vs.take k).all (fun u => decide (u = 1)) = true) := hall
            clear hall hwr
            by_cases hk : k < ns.length
            · have ik : (k : Int) < (ns.length : Int) := by omega
              have dk : decide ((k : Int) < (ns.length : Int)) = true := decide_eq_true ik
              have hkv : k < vs.length := by rw [HVL.out]; exact hk
              have u0 := HFo.out.cell hkv
              have HNu : Hid (¬ vs[k] = 1 → formB ns rs = false) := fun h => form_uses HUS.out hkv h
              have HAn : Hid ((vs.take (k + 1)).all (fun u => decide (u = 1)) = decide (vs[k] = 1)) := by rw [Hid, all_take_next _ _ _ hkv, HAu.out, Bool.true_and]
              generalize vs[k] = vk at *
              by_cases h1 : vk = 1
              · have q1 : (vk != 1) = false := by simp [h1]
                rw [Hid, decide_eq_true h1] at HAn
                have HAm : Hid _ := HAn
                have w1 : IntKind.i64.wrap ((k : Int) + 1) = ((k + 1 : Nat) : Int) := by rw [IntKind.wrap_i64]; omega
                obtain ⟨f2, rfl⟩ : ∃ f, gk = f + 1 := ⟨gk - 1, by omega⟩
                clear h1 HAn HAu hkv
                go_wp2
                go_roundg f2
                case measure => omega
                case rel => exact ⟨k + 1, by go_num, by omega, HAm.out, rfl⟩
              · have q1 : (vk != 1) = true := by rw [bne_iff_ne]; exact h1
                have HV : Hid (formB ns rs = false) := HNu.out h1
                clear h1 HAn HAu hkv
                go_wp2
                go_ret
                rw [HV.out]
                exact ⟨rfl, HFo.out.bel⟩
            · have dk : decide ((k : Int) < (ns.length : Int)) = false := decide_eq_false (by omega)
              have HU1 : Hid ((usesR (usesN (List.replicate ns.length 0) ns) rs).all (fun u => decide (u = 1)) = true) := by
                have := HAu.out
                rw [List.take_of_length_le (by rw [HVL.out]; omega), HUS.out] at this
                exact this
              clear HAu HUS hg
              go_wp2
              go_loopg [10] rs.length (fun gg kv wr => ∃ k : Nat, kv = .int .i64 k ∧ gg + k = rs.length ∧ (rs.take k).all (fun r => knF ns rs fuelK false (nodeS ns r.body).kids r.params) = true ∧ FoI ns rs W an ar cn cr vs wr)
              case atStart => exact ⟨0, rfl, by omega, rfl, HFo.out⟩
              case round =>
                obtain ⟨m, rfl, hg, hall, hfo⟩ := hrel
                have HAk : Hid ((rs.take m).all (fun r => knF ns rs fuelK false (nodeS ns r.body).kids r.params) = true) := hall
                have HF6 : Hid (FoI ns rs W an ar cn cr vs wr) := hfo
                have c1 := run_cell (j := 1) hfo.box rfl
                have c0 := run_cell (j := 0) hfo.box rfl
                clear hall hfo HFo
                by_cases hm : m < rs.length
                · have im : (m : Int) < (rs.length : Int) := by omega
                  have dm : decide ((m : Int) < (rs.length : Int)) = true := decide_eq_true im
                  obtain ⟨b, off, pa, pc, rfl, r0w, r1w, r2w, hPw⟩ := sRs_at HR0.out hm
                  have r1 := cell_keep r1w HF6.out.bel
                  have r2 := cell_keep r2w HF6.out.bel
                  have hru : ruleS ns rs m rs[m] = true := rules_of HAlr.out m hm
                  have hru2 : (((((decide (0 ≤ rs[m].body ∧ rs[m].body ≤ (ns.length : Int) - 1) && decide ((nodeS ns rs[m].body).kind = 6)) && ruleNameB rs[m].name) && paramsB rs[m].params) && !(decide (m = 0 ∧ 0 < rs[m].params.length))) && (rs.take m).all fun q => !(decide (q.name = rs[m].name))) = true := hru
                  simp only [Bool.and_eq_true, decide_eq_true_eq] at hru2
                  obtain ⟨⟨⟨⟨⟨hb, hk6⟩, _⟩, hpm⟩, _⟩, _⟩ := hru2
                  have hp6 := paramsB_len hpm
                  have HNk : Hid (knF ns rs fuelK false (nodeS ns rs[m].body).kids rs[m].params = false → formB ns rs = false) := fun h => form_known hm h
                  have HAm : Hid ((rs.take (m + 1)).all (fun r => knF ns rs fuelK false (nodeS ns r.body).kids r.params) = knF ns rs fuelK false (nodeS ns rs[m].body).kids rs[m].params) := by rw [Hid, all_take_next _ _ _ hm, HAk.out, Bool.true_and]
                  generalize rs[m].body = bo at *
                  obtain ⟨z, rfl⟩ : ∃ z : Nat, bo = (z : Int) := ⟨bo.toNat, by omega⟩
                  have hzn : z < ns.length := by omega
                  rw [nodeS_is hzn] at hk6
                  rw [Hid, nodeS_is hzn] at HNk HAm
                  have HNk2 : Hid _ := HNk
                  have HAm2 : Hid _ := HAm
                  have HC : Hid (∀ V, Below wr.heap.size wr V → _) := fun V hbv => (all_kn ns rs HShd.out HI.out.lf hnl hrl z).2 fuelK (.slice an ns.length cn) (.slice (some ⟨b, off, none⟩) rs.length cr) (.slice pa rs[m].params.length pc) rs[m].params V hzn (by rw [show fuelK = 2000 from rfl]; omega) hk6 hp6 (sNs_below HN0.out (HF6.out.bel.trans (hbv.mono HF6.out.bel.size))) (sRs_below HR0.out (HF6.out.bel.trans (hbv.mono HF6.out.bel.size))) (hPw.below (HF6.out.bel.trans (hbv.mono HF6.out.bel.size)))
                  clear hru hb hk6 hpm HNk HAm r0w r1w r2w hPw HAk
                  generalize knF ns rs fuelK false ns[z].kids rs[m].params = kb at *
                  cases kb with
                  | true =>
                    have w1 : IntKind.i64.wrap ((m : Int) + 1) = ((m + 1 : Nat) : Int) := by rw [IntKind.wrap_i64]; omega
                    obtain ⟨f2, rfl⟩ : ∃ f, gk = f + 1 := ⟨gk - 1, by omega⟩
                    go_wp2
                    go_region_held3 (fun V => V.cell? ⟨W.heap.size, 0, none⟩ = some (.slice an ns.length cn) ∧ V.cell? ⟨W.heap.size, 1, none⟩ = some (.slice (some ⟨b, off, none⟩) rs.length cr) ∧ V.cell? ⟨b, off + m * 3 + 1, none⟩ = some (.slice pa rs[m].params.length pc) ∧ V.cell? ⟨b, off + m * 3 + 2, none⟩ = some (.int .i64 z))
                      ((first | exact keep4 (by assumption) hb2 | go_keep))
                      ((first | (go_at_call 72; refine (HC.out _ (bel_drewS (Below.refl _ _))).mono ?_; rintro e w2 ⟨rfl, hb2⟩)))
                    have HF7 : Hid (FoI ns rs W an (some ⟨b, off, none⟩) cn cr vs w2) := HF6.out.step (bel_of_drew hb2)
                    clear hb2 HF6
                    go_wp2
                    go_roundg f2
                    case measure => omega
                    case rel => exact ⟨m + 1, by go_num, by omega, HAm2.out, HF7.out⟩
                  | false =>
                    have HV : Hid (formB ns rs = false) := HNk2.out rfl
                    go_wp2
                    go_region_held3 (fun V => V.cell? ⟨W.heap.size, 0, none⟩ = some (.slice an ns.length cn) ∧ V.cell? ⟨W.heap.size, 1, none⟩ = some (.slice (some ⟨b, off, none⟩) rs.length cr) ∧ V.cell? ⟨b, off + m * 3 + 1, none⟩ = some (.slice pa rs[m].params.length pc) ∧ V.cell? ⟨b, off + m * 3 + 2, none⟩ = some (.int .i64 z))
                      ((first | exact keep4 (by assumption) hb2 | go_keep))
                      ((first | (go_at_call 72; refine (HC.out _ (bel_drewS (Below.refl _ _))).mono ?_; rintro e w2 ⟨rfl, hb2⟩)))
                    have HB7 : Hid (Below W.heap.size W w2) := (HF6.out.step (bel_of_drew hb2)).bel
                    clear hb2 HF6
                    go_wp2
                    go_ret
                    rw [HV.out]
                    exact ⟨rfl, HB7.out⟩
                · have dm : decide ((m : Int) < (rs.length : Int)) = false := decide_eq_false (by omega)
                  have HV : Hid (formB ns rs = true) := by
                    have h6 := HAk.out
                    rw [List.take_of_length_le (by omega)] at h6
                    exact form_yes hn Hr.out HAll.out HAlr.out HU1.out h6
                  clear HAk
                  go_wp2
                  go_ret
                  rw [HV.out]
                  exact ⟨rfl, HF6.out.bel⟩

end Go.Proofs.Ytipkbkhnaekceaa
