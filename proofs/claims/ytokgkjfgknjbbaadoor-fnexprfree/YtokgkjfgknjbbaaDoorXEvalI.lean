/- The program's evaluated and EvalExpr. -/
import Derived.Test.YtokgkjfgknjbbaaDoorXNum2
namespace Go.Proofs.YtokgkjfgknjbbaaDoor
open Go.RowKit

theorem partsOf_no2 (v : Value) (ns : List NodeD) (w : World) (h : NRow w v ns) (hx : exprB ns = false) :
    Calls Tryd.prog 40 #[.agg #[v]] w fun e w' => e = .returned (.tuple #[.slice none 0 0, .iface 92 (.agg #[.int .i64 1])]) ∧ Below w.heap.size w w' := partsOf_no v ns w h hx

/-- The kids of a node below the whole are told. -/
theorem kids_told {ns : List NodeD} (hn : ∀ k (hk : k < ns.length), nodeB k ns[k] = true) {env : ByteArray → Option Int} {here : Int} {m : List Bool} {k : Nat} {cs : List Value} {w : World} {B g : Nat} (hk : k < ns.length) (h : NumsTo ns env here m k cs)
    (ho : w.ownsRow B 3 1 (.slice (some ⟨g, 0, none⟩) ns.length ns.length) ns.length cs) (hm : ∀ q ∈ ns[k].kids, m[q.toNat]? = some true) :
    ∃ vs, KidsAt w (.slice (some ⟨g, 0, none⟩) ns.length ns.length) ns[k].kids vs ∧ valN ns env here k = capB (nodeV env here ns[k] vs) := by
  have hkd := (node_parts (hn k hk)).2.2.2
  have told : ∀ q ∈ ns[k].kids, ∃ z, valN ns env here q.toNat = some z ∧ cs[q.toNat]? = some (.int .i64 z) := fun q hq => h.2 q.toNat (by have := hkd q hq; omega) (hm q hq)
  refine ⟨ns[k].kids.map fun q => (valN ns env here q.toNat).getD 0, ⟨g, ns.length, rfl, by simp, fun j hj => ?_⟩, ?_⟩
  · have hq := hkd _ (List.getElem_mem hj)
    obtain ⟨z, h1, h2⟩ := told _ (List.getElem_mem hj)
    have e : (ns[k].kids.map fun q => (valN ns env here q.toNat).getD 0).getD j 0 = z := by
      rw [List.getD_eq_getElem?_getD, List.getElem?_map, List.getElem?_eq_getElem hj]
      simp [h1]
    refine ⟨ns[k].kids[j].toNat, by omega, by omega, ?_, ?_⟩
    · rw [e]; exact valN_small hn (by omega) h1
    · rw [e]; exact own_int ho h2
  · rw [valN_eq hn env here k hk, allV_map ns[k].kids _ (fun q => (valN ns env here q.toNat).getD 0) (fun q hq => by
      obtain ⟨z, h1, _⟩ := told q hq
      rw [h1]; rfl)]

set_option maxHeartbeats 3200000 in
set_option maxRecDepth 100000 in
theorem evaluated_any (v u : Value) (ns : List NodeD) (xs : List VarD) (here : Int) (w : World) (hxl : xs.length ≤ 1048576) (h : NRow w v ns) (h' : VRow w u xs) :
    Calls Tryd.prog 45 #[.agg #[v], u, .int .i64 here] w fun e w' => (∃ r, e = .returned r ∧ NumRes (evalB ns (getB xs) here) r) ∧ Below w.heap.size w w' := by
  obtain ⟨i0, hi, hz0, hz1, hz2⟩ := info_parts Tryd.infoInt4
  have HR : Hid (NRow w v ns) := h
  have HV : Hid (VRow w u xs) := h'
  obtain ⟨a, cap, rfl⟩ := h.slice
  obtain ⟨av, capv, rfl⟩ := h'.slice
  clear h h'
  have B0 : Hid (Below w.heap.size w (w.alloc (.cells #[.slice a ns.length cap] 26))) := (Below.refl _ _).alloc (Nat.le_refl _) _
  cases hex : exprB ns with
  | false =>
    have HP : Hid (∀ W, NRow W (.slice a ns.length cap) ns → _) := fun W hw => partsOf_no2 (.slice a ns.length cap) ns W hw hex
    have HVal : Hid (evalB ns (getB xs) here = none) := by rw [Hid, evalB, hex]; rfl
    rw [HVal.out]
    clear hex
    go_enter Tryd.func45, Tryd.ntmps45
    go_wp2_with fail
    refine (HP.out _ (HR.out.below B0.out)).mono ?_
    rintro e w1 ⟨rfl, hb1⟩
    have B1 : Hid (Below w.heap.size w w1) := B0.out.trans (hb1.mono B0.out.size)
    clear hb1
    go_wp2
    go_ret2
    exact ⟨⟨_, rfl, 1, by decide, rfl⟩, B1.out⟩
  | true =>
    obtain ⟨⟨hl1, hl2⟩, hnode⟩ := exprB_at hex
    have HNd : Hid (∀ k (hk : k < ns.length), nodeB k ns[k] = true) := hnode
    have HP : Hid (∀ W, NRow W (.slice a ns.length cap) ns → _) := fun W hw => partsOf_yes (.slice a ns.length cap) ns W hw hex
    have HTm : Hid (∀ v W, PRow W v ns → _) := fun v W hw => timesCome_any v ns W hex hw
    have HMs : Hid (Marks ns (marksT ns)) := times_marks hex
    have HTl : Hid ((timesB ns).length = ns.length) := (times_come hex).len
    have HNone : Hid (∀ i, i < ns.length → (marksT ns)[i]? = some true → valN ns (getB xs) here i = none → evalB ns (getB xs) here = none) := fun i hi => marks_none hex HMs.out (getB xs) here (ns.length - 1 - i) i (by omega)
    have HLast : Hid (evalB ns (getB xs) here = valN ns (getB xs) here (ns.length - 1)) := evalB_val hex (getB xs) here
    clear hex hnode
    go_enter Tryd.func45, Tryd.ntmps45
    go_wp2_with fail
    refine (HP.out _ (HR.out.below B0.out)).mono ?_
    rintro e w1 ⟨o, rfl, ho, hb1⟩
    have B1 : Hid (Below w.heap.size w w1) := B0.out.trans (hb1.mono B0.out.size)
    have P1 : Hid (PRow w1 o ns) := ho.row
    obtain ⟨ap, cp, rfl⟩ := ho.row.slice
    clear hb1 B0 HP ho
    go_wp2_with (at_make; refine wpList_make_full _ rfl _ _ 35 rfl w1.heap.size 3 i0 _ 1 Tryd.underlying35 hi hz0 hz1 .i64 .i64 _ _ ns.length rfl rfl rfl rfl (by rw [hz2]; omega) (by unfold maxLen; omega) (Nat.le_refl _) ?_; intro w2 hown hg2)
    have HO2 : Hid (w2.ownsRow w1.heap.size 3 1 (.slice (some ⟨w1.heap.size, 0, none⟩) ns.length ns.length) ns.length (madeCells (Value.int .i64 0).cells (ns.length * 1)).toList) := hown
    have HN2 : Hid (NumsTo ns (getB xs) here (marksT ns) 0 (madeCells (Value.int .i64 0).cells (ns.length * 1)).toList) := ⟨by rw [hown.1]; omega, fun j hj => by omega⟩
    have B2 : Hid (Below w1.heap.size w1 w2) := (Below.refl _ _).grown hg2 (Nat.le_refl _) (fun k h => by cases h)
    have hs2 : w1.heap.size + 1 ≤ w2.heap.size := (World.ownsRow.lt hown w1.heap.size rfl).2
    clear hown hg2
    refine (HTm.out _ _ (P1.out.below B2.out)).mono ?_
    rintro e w3 ⟨g, rfl, hot, hb3⟩
    have HO3 : Hid (w3.ownsRow w1.heap.size 3 1 (.slice (some ⟨w1.heap.size, 0, none⟩) ns.length ns.length) ns.length (madeCells (Value.int .i64 0).cells (ns.length * 1)).toList) := own_below HO2.out hb3
    have HT3 : Hid (OwnZ (w1.heap.size + 1) (.slice (some ⟨g, 0, none⟩) ns.length ns.length) (timesB ns) w3) := OwnZ.base hot hs2
    have B3 : Hid (Below w1.heap.size w1 w3) := B2.out.trans (hb3.mono (by omega))
    clear hot hb3 HO2 B2 hs2 HTm
    go_wp2
    go_loopw [29] (fun iv wr => ∃ (k : Nat) (cs : List Value), iv = .int .i64 k ∧ k ≤ ns.length ∧ NumsTo ns (getB xs) here (marksT ns) k cs ∧ wr.ownsRow w1.heap.size 3 1 (.slice (some ⟨w1.heap.size, 0, none⟩) ns.length ns.length) ns.length cs ∧ OwnZ (w1.heap.size + 1) (.slice (some ⟨g, 0, none⟩) ns.length ns.length) (timesB ns) wr ∧ Below w1.heap.size w1 wr) (fun iv _ => ns.length - (intOf iv).toNat)
    case atStart => exact ⟨0, _, rfl, Nat.zero_le _, HN2.out, HO3.out, HT3.out, B3.out⟩
    case round =>
      obtain ⟨k, cs, rfl, hk, hnt, hown, hot, hbw⟩ := hrel
      have HNt : Hid (NumsTo ns (getB xs) here (marksT ns) k cs) := hnt
      have HOr : Hid (wr.ownsRow w1.heap.size 3 1 (.slice (some ⟨w1.heap.size, 0, none⟩) ns.length ns.length) ns.length cs) := hown
      have HT : Hid (OwnZ (w1.heap.size + 1) (.slice (some ⟨g, 0, none⟩) ns.length ns.length) (timesB ns) wr) := hot
      have HBr : Hid (Below w1.heap.size w1 wr) := hbw
      have HB : Hid (Below w.heap.size w wr) := B1.out.trans (hbw.mono B1.out.size)
      clear hnt hown hot hbw
      by_cases hlt : k < ns.length
      · obtain ⟨hct, _⟩ := ownZ_cell HT.out HTl.out k hlt
        have i4 : (k : Int) < (ns.length : Int) := by omega
        have HMk : Hid ((marksT ns)[k]? = some true ↔ (timesB ns).getD k 0 ≠ 0) := marksT_at k
        generalize (timesB ns).getD k 0 = tk at *
        by_cases ht0 : tk = 0
        · subst ht0
          have HS : Hid (NumsTo ns (getB xs) here (marksT ns) (k + 1) cs) := numsTo_skip HNt.out (fun h => HMk.out.1 h rfl)
          go_wp2
          go_roundw
          case rel => exact ⟨k + 1, cs, by go_num, by omega, HS.out, HOr.out, HT.out, HBr.out⟩
          case measure => simp [intOf]; omega
        · have HMt : Hid ((marksT ns)[k]? = some true) := HMk.out.2 ht0
          obtain ⟨vs, hka, hval⟩ := kids_told HNd.out hlt HNt.out HOr.out (HMs.out.2.2.1 k hlt HMt.out)
          obtain ⟨b, off, rfl, hpc⟩ := (P1.out.below HBr.out).at hlt
          have HNm : Hid (_) := numOf_any (HNd.out k hlt) _ (.slice av xs.length capv) xs here vs wr (by omega) hka (HV.out.below HB.out)
          rw [← hval] at HNm
          obtain ⟨pt, px, hpx⟩ := partV_iface ns[k]
          rw [hpx] at hpc HNm
          have HPut : Hid (∀ z, valN ns (getB xs) here k = some z → NumsTo ns (getB xs) here (marksT ns) (k + 1) (cs.set k (.int .i64 z))) := fun z hz => numsTo_put hlt HNt.out hz
          clear hka hval hpx
          cases hv0 : valN ns (getB xs) here k with
          | none =>
            have HNo : Hid (evalB ns (getB xs) here = none) := HNone.out k hlt HMt.out hv0
            rw [hv0] at HNm
            clear hv0
            go_wp2_with fail
            refine Calls.mono HNm.out ?_
            rintro e w4 ⟨⟨r, rfl, c, hc, rfl⟩, hb4⟩
            have HC : Hid (c ≠ 0) := hc
            have B4 : Hid (Below w.heap.size w w4) := HB.out.trans (hb4.mono HB.out.size)
            clear hb4 hc
            go_wp2
            go_ret2
            rw [HNo.out]
            exact ⟨⟨_, rfl, c, HC.out, rfl⟩, B4.out⟩
          | some z =>
            have HPt : Hid (NumsTo ns (getB xs) here (marksT ns) (k + 1) (cs.set k (.int .i64 z))) := HPut.out z hv0
            rw [hv0] at HNm
            clear hv0
            go_wp2_with fail
            refine Calls.mono HNm.out ?_
            rintro e w4 ⟨⟨r, rfl, rfl⟩, hb4⟩
            have HO4 : Hid (w4.ownsRow w1.heap.size 3 1 (.slice (some ⟨w1.heap.size, 0, none⟩) ns.length ns.length) ns.length cs) := own_below HOr.out hb4
            have HT4 : Hid (OwnZ (w1.heap.size + 1) (.slice (some ⟨g, 0, none⟩) ns.length ns.length) (timesB ns) w4) := HT.out.below hb4
            have B4 : Hid (Below w1.heap.size w1 w4) := HBr.out.trans (hb4.mono HBr.out.size)
            obtain ⟨cw, hcw, hfw⟩ := own_cell HO4.out k (by omega)
            have HSt : Hid ((w4.setCell ⟨w1.heap.size, k, none⟩ (.int .i64 z)).ownsRow w1.heap.size 3 1 (.slice (some ⟨w1.heap.size, 0, none⟩) ns.length ns.length) ns.length (cs.set k (.int .i64 z))) := (World.ownsRow.stored HO4.out k (.int .i64 z)).1
            have HTs : Hid (OwnZ (w1.heap.size + 1) (.slice (some ⟨g, 0, none⟩) ns.length ns.length) (timesB ns) (w4.setCell ⟨w1.heap.size, k, none⟩ (.int .i64 z))) := World.ownsRow.kept HT4.out (grow_set w4 w1.heap.size k _) (off_block HT4.out (by omega))
            have HBs : Hid (Below w1.heap.size w1 (w4.setCell ⟨w1.heap.size, k, none⟩ (.int .i64 z))) := B4.out.setCell (Nat.le_refl _) _
            clear hb4
            go_wp2
            go_roundw
            case rel => exact ⟨k + 1, _, by go_num, by omega, HPt.out, HSt.out, HTs.out, HBs.out⟩
            case measure => simp [intOf]; omega
      · obtain rfl : k = ns.length := by omega
        obtain ⟨z, hz1', hz2'⟩ := HNt.out.2 (ns.length - 1) (by omega) HMs.out.2.1
        have hcz := own_int HOr.out hz2'
        have HE : Hid (evalB ns (getB xs) here = some z) := HLast.out.trans hz1'
        have i4 : ¬ (ns.length : Int) < (ns.length : Int) := by omega
        have i6 : IntKind.i64.wrap ((ns.length : Int) - 1) = ((ns.length - 1 : Nat) : Int) := by rw [IntKind.wrap_i64]; omega
        have i7 : ((ns.length - 1 : Nat) : Int) < (ns.length : Int) := by omega
        clear hz1' hz2'
        go_wp2
        go_ret2
        rw [HE.out]
        exact ⟨⟨_, rfl, rfl⟩, HB.out⟩

set_option maxHeartbeats 1600000 in
theorem implEvalExpr_any (v u : Value) (ns : List NodeD) (xs : List VarD) (here : Int) (w : World) (hg : errTy w) (hxl : xs.length ≤ 1048576) (h : NRow w v ns) (h' : VRow w u xs) :
    Calls Tryd.prog 12 #[.agg #[v], u, .int .i64 here] w fun e w' => e = .returned (optV (evalB ns (getB xs) here)) ∧ Below w.heap.size w w' := by
  have HG : Hid (errTy w) := hg
  obtain ⟨a, cap, rfl⟩ := h.slice
  obtain ⟨av, capv, rfl⟩ := h'.slice
  have B0 : Hid (Below w.heap.size w (w.alloc (.cells #[.slice a ns.length cap] 26))) := (Below.refl _ _).alloc (Nat.le_refl _) _
  have HE : Hid (_) := evaluated_any (.slice a ns.length cap) (.slice av xs.length capv) ns xs here _ hxl (h.below B0.out) (h'.below B0.out)
  clear h h' hg
  cases hv : evalB ns (getB xs) here with
  | none =>
    rw [hv] at HE
    clear hv
    go_enter Tryd.func12, Tryd.ntmps12
    go_wp2_with fail
    refine Calls.mono HE.out ?_
    rintro e w1 ⟨⟨r, rfl, c, hc, rfl⟩, hb1⟩
    have B1 : Hid (Below w.heap.size w w1) := B0.out.trans (hb1.mono B0.out.size)
    have hc2 : (c == 0) = false := by simpa using hc
    clear hb1 hc
    go_wp2_with fail
    refine (faultCode_is c _ (HG.out.below B1.out)).mono ?_
    rintro e w2 ⟨rfl, hb2⟩
    have B2 : Hid (Below w.heap.size w w2) := B1.out.trans (hb2.mono B1.out.size)
    clear hb2
    go_wp2
    go_ret2
    exact ⟨rfl, B2.out⟩
  | some z =>
    rw [hv] at HE
    clear hv
    go_enter Tryd.func12, Tryd.ntmps12
    go_wp2_with fail
    refine Calls.mono HE.out ?_
    rintro e w1 ⟨⟨r, rfl, rfl⟩, hb1⟩
    have B1 : Hid (Below w.heap.size w w1) := B0.out.trans (hb1.mono B0.out.size)
    clear hb1
    go_wp2_with fail
    refine (faultCode_nil _).mono ?_
    rintro e w2 ⟨rfl, hb2⟩
    have B2 : Hid (Below w.heap.size w w2) := B1.out.trans (hb2.mono B1.out.size)
    clear hb2
    go_wp2
    go_ret2
    exact ⟨rfl, B2.out⟩
end Go.Proofs.YtokgkjfgknjbbaaDoor
