/- What each rule may begin with, as the program tells it: round after round till nothing changes. -/
/- The specification's l18Null (printed by mk/e18n.py). -/
import Derived.Test.YtofpoiccghpliaaGreatDoorE18X
import Derived.Test.YtofpoiccghpliaaGreatDoorIGram
import Derived.Test.YtofpoiccghpliaaGreatDoorRO
import Derived.Deep.RegionHeld3
import Derived.Deep.Onto
namespace Go.Proofs.YtofpoiccghpliaaGreatDoor
open Go.RowKit
set_option linter.unusedVariables false
set_option maxRecDepth 100000

theorem Tryz.infoBg3 : (Tryz.prog.info? 49).map (fun i => (i.zero, i.size, i.bytes)) = some (some (.agg Tryz.zeroCells49), 257, 257) := by kernel_rfl
theorem made18 (n : Nat) : (madeCells (Value.agg Tryz.zeroCells49).cells (n * 257)).toList = flV18 (List.replicate (257 * n) false) := by
  rw [flZero18]
  have e : (Value.agg (flV18 zL18).toArray).cells = (flV18 zL18).toArray := rfl
  rw [e]
  unfold madeCells
  rw [Array.toList_map, Array.toList_range, flV18_size, zL18_len]
  apply List.ext_getElem
  · simp [flV18, Nat.mul_comm]
  · intro j h1 h2
    rw [List.getElem_map, List.getElem_range]
    have hj : j % 257 < 257 := Nat.mod_lt _ (by decide)
    have h3 : (flV18 zL18).toArray[j % 257]! = .bool false := by
      have hl : j % 257 < (flV18 zL18).toArray.size := by rw [flV18_size, zL18_len]; exact hj
      rw [getElem!_pos (flV18 zL18).toArray (j % 257) hl]
      have h4 := flV18_get zL18 (j % 257) (by rw [zL18_len]; exact hj)
      have h5 : zL18.getD (j % 257) false = false := by
        unfold zL18
        rw [List.getD_eq_getElem?_getD, List.getElem?_replicate, if_pos hj]
        rfl
      rw [h5] at h4
      have h6 : (flV18 zL18)[j % 257]? = some ((flV18 zL18).toArray[j % 257]) := by rw [List.getElem?_eq_getElem (by simpa using hl)]; rfl
      rw [h6] at h4
      exact Option.some.inj h4
    rw [h3]
    simp [flV18]
theorem symsF_all18 {R : SymD → Prop} (hR : ∀ x kn p, (symB x kn p).2 = true → R x) (g : List RuleD) : ∀ (xs : List SymD) (kn : List ByteArray), symsF g kn xs = true → ∀ s ∈ xs, R s
  | [], _, _, s, hs => by cases hs
  | x :: xs, kn, h, s, hs => by
    rw [symsF, Bool.and_eq_true] at h
    rcases List.mem_cons.1 hs with rfl | hs
    · exact hR _ _ _ h.1
    · exact symsF_all18 hR g xs _ h.2 s hs
theorem symB_kind18 (x : SymD) (kn : List ByteArray) (p : Int) (h : (symB x kn p).2 = true) : (x.kind = 1 ∨ x.kind = 2 ∨ x.kind = 3 ∨ x.kind = 4) ∧ (x.kind = 1 → 1 ≤ x.text.size) := by
  unfold symB at h
  by_cases h1 : x.kind = 1
  · rw [if_pos h1] at h
    refine ⟨.inl h1, fun _ => ?_⟩
    simp only [Bool.and_eq_true] at h
    have h2 := h.1.1
    rw [text6, Bool.and_eq_true, decide_eq_true_eq] at h2
    have := h2.2.1
    omega
  · rw [if_neg h1] at h
    refine ⟨?_, fun e => absurd e h1⟩
    by_cases h2 : x.kind = 2
    · exact .inr (.inl h2)
    · rw [if_neg h2] at h
      by_cases h4 : x.kind = 4
      · exact .inr (.inr (.inr h4))
      · rw [if_neg h4] at h
        by_cases h3 : x.kind = 3
        · exact .inr (.inr (.inl h3))
        · rw [if_neg h3] at h
          cases h
theorem symR_of {g : List RuleD} (h : gramB g = true) (hg : grammarTot g ≤ 1048576) {i : Nat} (hi : i < g.length) {a : List SymD} (ha : a ∈ (g.getD i default).alts) {s : SymD} (hs : s ∈ a) : SymR g s := by
  have hp := fun hk => call_place18 h hi ha hs hk
  have hrd : g.getD i default = g[i] := by rw [List.getD_eq_getElem?_getD, List.getElem?_eq_getElem hi]; rfl
  have hsz : s.text.size ≤ 1048576 := by
    rw [hrd] at ha
    have h1 := rowTot_mem ruleTot (List.getElem_mem hi)
    have h2 := rowTot_mem altTot ha
    have h3 : symTot s ≤ altTot a := rowTot_mem symTot hs
    have h4 : rowTot altTot g[i].alts ≤ ruleTot g[i] := by unfold ruleTot; omega
    have h5 : s.text.size ≤ symTot s := by unfold symTot; omega
    have h6 : rowTot ruleTot g ≤ 1048576 := hg
    omega
  rw [gramB, Bool.and_eq_true] at h
  have h1 := List.all_eq_true.1 h.2 i (List.mem_range.2 hi)
  rw [gramAt, Bool.and_eq_true] at h1
  have h2 := h1.2
  rw [ruleB, Bool.and_eq_true] at h2
  have h4 := List.all_eq_true.1 h2.2 a ha
  rw [altB, Bool.and_eq_true] at h4
  have h5 := symsF_all18 symB_kind18 g a _ h4.2 s hs
  exact ⟨h5.1, h5.2, hp, hsz⟩

set_option maxHeartbeats 6400000 in
theorem implBegin18_any (gv : Value) (g : List RuleD) (w : World) (hErr : errTy w) (hz : TzTab w) (hg : grammarTot g ≤ 1048576) (h : RowC 3 RuleE w gv g) :
    Calls Tryz.prog 17 #[.agg #[gv]] w fun e w' => ∃ tv, e = .returned tv ∧ Below w.heap.size w w' ∧
      ((gramB g = false ∧ tv = .slice none 0 0) ∨ (gramB g = true ∧ ∃ (tb : Nat) (F : List Bool), tv = .slice (some ⟨tb, 0, none⟩) g.length g.length ∧ TabF tb F w' ∧ PsT g F false)) := by
  have hmf : ∀ (fn : Fn) (first cap : Array Value) (w : World), (Instr.makeFunc fn first cap).run Tryz.prog w = .ok (.func fn first cap) w := fun _ _ _ _ => rfl
  obtain ⟨ib, hib, hib0, hib1, hib2⟩ := info_parts Tryz.infoBg3
  obtain ⟨ga, gc, rfl⟩ := h.slice
  have hgl : g.length ≤ 1048576 := Nat.le_trans (rowTot_len ruleTot g) hg
  have B0 : Hid (Below w.heap.size w (w.alloc (.cells #[.slice ga g.length gc] 30))) := (Below.refl _ _).alloc (Nat.le_refl _) _
  have HGb : Hid ((w.alloc (.cells #[.slice ga g.length gc] 30)).heap[w.heap.size]? = some (.cells #[.slice ga g.length gc] 30 (0, 0))) := heap_alloc_new w _
  have HSz : Hid ((w.alloc (.cells #[.slice ga g.length gc] 30)).heap.size = w.heap.size + 1) := by rw [Hid]; simp
  have e0 := box_at w #[.slice ga g.length gc] 30 0 (.slice ga g.length gc) rfl
  have HSt : Hid (∀ W, Below w.heap.size w W → RowC 3 RuleE W (.slice ga g.length gc) g ∧ TzTab W ∧ errTy W) := fun W hb => ⟨RowC.below RuleE_stable h hb, hz.below hb, hErr.below hb⟩
  have HRow : Hid (RowC 3 RuleE w (.slice ga g.length gc) g) := h
  have HGo : Hid (∀ W, errTy W → RowC 3 RuleE W (.slice ga g.length gc) g → _) := fun W h1 h2 => implGrammarOk_any (.slice ga g.length gc) g W h1 hg h2
  have HG : Hid (grammarTot g ≤ 1048576) := hg
  clear h hz hErr hg
  go_enter Tryz.func17, Tryz.ntmps17
  go_wp2_with fail
  refine (HGo.out _ (HSt.out _ B0.out).2.2 (HSt.out _ B0.out).1).mono ?_
  rintro e w2 ⟨rfl, hb2⟩
  have e2 := cell_keep e0 hb2
  have HG2 : Hid (w2.heap[w.heap.size]? = some (.cells #[.slice ga g.length gc] 30 (0, 0))) := (hb2.block _ (by rw [HSz.out]; omega)).trans HGb.out
  have B2 : Hid (Below w.heap.size w w2) := B0.out.trans (hb2.mono B0.out.size)
  have HS2 : Hid (w.heap.size + 1 ≤ w2.heap.size) := by have := hb2.size; rw [HSz.out] at this; exact this
  clear e0 hb2 HGb B0 HSz HGo
  cases hgb : gramB g with
  | false =>
    go_wp2
    go_ret
    exact ⟨_, rfl, B2.out, .inl ⟨hgb, rfl⟩⟩
  | true =>
    have HO : Hid (∀ i, i < g.length → ∀ a ∈ (g.getD i default).alts, ∀ s ∈ a, SymR g s) := fun i hi a ha s hs => symR_of hgb HG.out hi ha hs
    go_wp2_with (at_make; refine wpList_make_full _ rfl _ _ 45 rfl w2.heap.size 49 ib _ 257 Tryz.underlying45 hib hib0 hib1 .i64 .i64 _ _ g.length rfl rfl rfl rfl (by rw [hib2]; omega) (by unfold maxLen; omega) (Nat.le_refl _) ?_; intro w3 hown hg3; have HB3 : Hid (Below w2.heap.size w2 w3) := (Below.refl w2.heap.size w2).grown hg3 (Nat.le_refl _) (fun k h => by cases h); have HOwn : Hid (w3.ownsRow w2.heap.size 49 257 (.slice (some ⟨w2.heap.size, 0, none⟩) g.length g.length) g.length (madeCells (Value.agg Tryz.zeroCells49).cells (g.length * 257)).toList) := hown; have e3 := cell_keep e2 HB3.out; clear hown hg3)
    have HT3 : Hid (TabF w2.heap.size (List.replicate (257 * g.length) false) w3) := by
      have h1 := HOwn.out
      rw [made18] at h1
      rcases h1.2 with ⟨h2, _⟩ | ⟨b, cap, cur, h2, _, hq, _, _, hsz, htk⟩
      · cases h2
      · cases h2
        have h3 : cur.toList = flV18 (List.replicate (257 * g.length) false) := by rw [← htk, List.take_of_length_le (by rw [Array.length_toList, hsz]; exact Nat.le_refl _)]
        have h4 : cur = (flV18 (List.replicate (257 * g.length) false)).toArray := by rw [← h3, Array.toArray_toList]
        rw [h4] at hq
        exact hq
    have HLt : Hid (w.heap.size < w2.heap.size ∧ w2.heap.size < w3.heap.size) := ⟨by have := HS2.out; omega, HT3.out.lt⟩
    have b1 : ∀ (W : World) (o : Obj), Below W.heap.size W (W.alloc o) := fun W o => (Below.refl _ _).alloc (Nat.le_refl _) _
    have s1 : (w3.alloc (.cells #[.slice (some ⟨w2.heap.size, 0, none⟩) g.length g.length] 45)).heap.size = w3.heap.size + 1 := by simp
    have s2 : ((w3.alloc (.cells #[.slice (some ⟨w2.heap.size, 0, none⟩) g.length g.length] 45)).alloc (.cells #[.bool true] 4)).heap.size = w3.heap.size + 1 + 1 := by simp
    have B5 : Hid (Below w3.heap.size w3 ((w3.alloc (.cells #[.slice (some ⟨w2.heap.size, 0, none⟩) g.length g.length] 45)).alloc (.cells #[.bool true] 4))) := (b1 _ _).trans ((b1 _ _).mono (by rw [s1]; omega))
    have HT5 : Hid (TabF w2.heap.size (List.replicate (257 * g.length) false) ((w3.alloc (.cells #[.slice (some ⟨w2.heap.size, 0, none⟩) g.length g.length] 45)).alloc (.cells #[.bool true] 4))) := HT3.out.keep B5.out
    have HR5 : Hid (((w3.alloc (.cells #[.slice (some ⟨w2.heap.size, 0, none⟩) g.length g.length] 45)).alloc (.cells #[.bool true] 4)).heap[w3.heap.size]? = some (.cells #[.slice (some ⟨w2.heap.size, 0, none⟩) g.length g.length] 45 (0, 0))) := ((b1 _ _).block _ (by rw [s1]; omega)).trans (heap_alloc_new w3 _)
    have HC5 : Hid (((w3.alloc (.cells #[.slice (some ⟨w2.heap.size, 0, none⟩) g.length g.length] 45)).alloc (.cells #[.bool true] 4)).heap[w3.heap.size + 1]? = some (.cells #[.bool true] 4 (0, 0))) := by
      have h1 := heap_alloc_new (w3.alloc (.cells #[.slice (some ⟨w2.heap.size, 0, none⟩) g.length g.length] 45)) (.cells #[.bool true] 4)
      rw [s1] at h1
      exact h1
    have HG5 : Hid (((w3.alloc (.cells #[.slice (some ⟨w2.heap.size, 0, none⟩) g.length g.length] 45)).alloc (.cells #[.bool true] 4)).heap[w.heap.size]? = some (.cells #[.slice ga g.length gc] 30 (0, 0))) := (B5.out.block _ (Nat.lt_trans HLt.out.1 HLt.out.2)).trans ((HB3.out.block _ HLt.out.1).trans HG2.out)
    have BW : Hid (Below w.heap.size w ((w3.alloc (.cells #[.slice (some ⟨w2.heap.size, 0, none⟩) g.length g.length] 45)).alloc (.cells #[.bool true] 4))) := (B2.out.trans (HB3.out.mono B2.out.size)).trans (B5.out.mono (Nat.le_of_lt (Nat.lt_trans HLt.out.1 HLt.out.2)))
    have HS5 : Hid (w3.heap.size + 1 < ((w3.alloc (.cells #[.slice (some ⟨w2.heap.size, 0, none⟩) g.length g.length] 45)).alloc (.cells #[.bool true] 4)).heap.size) := by rw [Hid, s2]; omega
    clear e2 e3 s1 s2 b1 HB3 HOwn HG2 HT3 B5 B2 HS2
    generalize ((w3.alloc (.cells #[.slice (some ⟨w2.heap.size, 0, none⟩) g.length g.length] 45)).alloc (.cells #[.bool true] 4)) = W5 at *
    generalize w2.heap.size = tb at *
    generalize w3.heap.size = R at *
    have HD : Hid (∀ W, Kp (fun q => q = tb ∨ q = R + 1) W5 W → Below w.heap.size w W ∧ W.heap[R]? = some (.cells #[.slice (some ⟨tb, 0, none⟩) g.length g.length] 45 (0, 0)) ∧ W.heap[w.heap.size]? = some (.cells #[.slice ga g.length gc] 30 (0, 0))) := fun W k =>
      ⟨k.onto BW.out (Nat.le_refl _) (fun j hj => by have := HLt.out; omega), (k.block R (by have := HS5.out; omega) (by have := HLt.out; omega)).trans HR5.out, (k.block w.heap.size (by have := HS5.out; have := HLt.out; omega) (by have := HLt.out; omega)).trans HG5.out⟩
    have HNe : Hid (R ≠ R + 1 ∧ tb ≠ R + 1) := ⟨by omega, by have := HLt.out; omega⟩
    clear HR5 HG5 BW
    go_loopg [] (left18 g (List.replicate (257 * g.length) false) true) (fun gg wx => ∃ (F : List Bool) (ch : Bool), left18 g F ch ≤ gg ∧ PsT g F ch ∧ TabF tb F wx ∧ wx.heap[R + 1]? = some (.cells #[.bool ch] 4 (0, 0)) ∧ Kp (fun q => q = tb ∨ q = R + 1) W5 wx)
    case atStart => exact ⟨_, true, Nat.le_refl _, PsT.start g, HT5.out, HC5.out, Kp.refl⟩
    case round =>
      clear HT5 HC5
      obtain ⟨F0, ch, hle, hps, ht, hc, hk⟩ := hrel
      obtain ⟨wi, rfl⟩ : ∃ W, W = wr := ⟨wr, rfl⟩
      have HPs : Hid (PsT g F0 ch) := hps
      have HT : Hid (TabF tb F0 wi) := ht
      have HK : Hid (Kp (fun q => q = tb ∨ q = R + 1) W5 wi) := hk
      have c0 := run_cell (j := 0) (u := .bool ch) hc rfl
      have f0 := run_frozen (j := 0) hc
      have HCi : Hid (wi.heap[R + 1]? = some (.cells #[.bool ch] 4 (0, 0))) := hc
      obtain ⟨hbw, hrw, hgw⟩ := HD.out _ hk
      clear hps ht hk hc
      cases ch with
      | false =>
        have r0 := run_cell (j := 0) (u := .slice (some ⟨tb, 0, none⟩) g.length g.length) hrw rfl
        have HBw : Hid (Below w.heap.size w wi) := hbw
        clear hrw hgw hbw
        go_wp2
        go_ret
        exact ⟨_, rfl, HBw.out, .inr ⟨hgb, tb, F0, rfl, HT.out, HPs.out⟩⟩
      | true =>
        have kj : Kp (fun q => q = tb ∨ q = R + 1) wi (wi.setCell ⟨R + 1, 0, none⟩ (.bool false)) := Kp.store (.inr rfl)
        have HKj : Hid (Kp (fun q => q = tb ∨ q = R + 1) W5 (wi.setCell ⟨R + 1, 0, none⟩ (.bool false))) := HK.out.trans kj
        have HTj : Hid (TabF tb F0 (wi.setCell ⟨R + 1, 0, none⟩ (.bool false))) := HT.out.kp (G := fun q => q = R + 1) (Kp.store rfl) HNe.out.2
        have HCj : Hid ((wi.setCell ⟨R + 1, 0, none⟩ (.bool false)).heap[R + 1]? = some (.cells #[.bool false] 4 (0, 0))) := by
          rw [Hid, setCell_self (j := 0) (.bool false) HCi.out]
          simp
        have g0 := run_cell (j := 0) (u := .slice ga g.length gc) (HD.out _ HKj.out).2.2 rfl
        clear hbw hrw hgw kj
        go_wp2_with fail
        clear c0 f0 HT HK HCi
        generalize wi.setCell ⟨R + 1, 0, none⟩ (.bool false) = wj at *
        clear g0
        go_loopw [22] (fun iv wr => ∃ (i : Nat) (F : List Bool) (ch : Bool), iv = .int .i64 i ∧ i ≤ g.length ∧ PsI g F0 F ch i ∧ TabF tb F wr ∧ wr.heap[R + 1]? = some (.cells #[.bool ch] 4 (0, 0)) ∧ Kp (fun q => q = tb ∨ q = R + 1) W5 wr) (fun iv _ => g.length - (intOf iv).toNat)
        case atStart => exact ⟨0, F0, false, rfl, Nat.zero_le _, HPs.out.pass, HTj.out, HCj.out, HKj.out⟩
        case round =>
          clear HTj HCj HKj
          obtain ⟨i, F1, ch, rfl, hil, hps, ht, hc, hk⟩ := hrel
          obtain ⟨w6, rfl⟩ : ∃ W, W = wr := ⟨wr, rfl⟩
          have HP1 : Hid (PsI g F0 F1 ch i) := hps
          have HT1 : Hid (TabF tb F1 w6) := ht
          have HC1 : Hid (w6.heap[R + 1]? = some (.cells #[.bool ch] 4 (0, 0))) := hc
          have HK1 : Hid (Kp (fun q => q = tb ∨ q = R + 1) W5 w6) := hk
          clear hps ht hc hk
          by_cases hlt : i < g.length
          · obtain ⟨b, off, vs, rfl, _, hcs, hEl⟩ := HRow.out.at hlt
            have hrd : g.getD i default = g[i] := by rw [List.getD_eq_getElem?_getD, List.getElem?_eq_getElem hlt]; rfl
            have HO1 : Hid (∀ a ∈ (g.getD i default).alts, ∀ s ∈ a, SymR g s) := HO.out i hlt
            have HTot : Hid (rowTot altTot (g.getD i default).alts ≤ 1048576) := by
              rw [Hid, hrd]
              have h1 := rowTot_mem ruleTot (List.getElem_mem hlt)
              have h2 : rowTot altTot g[i].alts ≤ ruleTot g[i] := by unfold ruleTot; omega
              have h3 : rowTot ruleTot g ≤ 1048576 := HG.out
              omega
            rw [← hrd] at hEl
            obtain ⟨q0, q1, rfl, hp, ha⟩ := hEl
            obtain ⟨pa, pc, rfl⟩ := hp.slice
            obtain ⟨aa, ac, rfl⟩ := ha.slice
            have bw6 := (HD.out _ HK1.out).1
            have n0 := cell_keep (hcs 0 (by simp)) bw6
            have n1 := cell_keep (hcs 1 (by simp)) bw6
            have n2 := cell_keep (hcs 2 (by simp)) bw6
            simp only [List.getElem_cons_zero, List.getElem_cons_succ, Nat.add_zero] at n0 n1 n2
            have HAr : Hid (RowC 1 AltE w (.slice aa (g.getD i default).alts.length ac) (g.getD i default).alts) := ha
            have HPk : Hid (PsK g F0 F1 ch i 0) := HP1.out.rule
            have i4 : (i : Int) < (g.length : Int) := by omega
            have hal : (g.getD i default).alts.length ≤ 1048576 := Nat.le_trans (rowTot_len altTot _) HTot.out
            clear hcs hp ha hrd bw6 HP1
            generalize hρ : g.getD i default = ρ at *
            have Hρ : Hid (g.getD i default = ρ) := hρ
            clear hρ
            have HKa : Hid (Kp (fun q => q = tb ∨ q = R + 1) W5 (w6.alloc (.cells #[.string ρ.name, .slice pa ρ.params.length pc, .slice aa ρ.alts.length ac] 43))) := HK1.out.trans (Kp.below ((Below.refl _ _).alloc (Nat.le_refl _) _))
            have HTa : Hid (TabF tb F1 (w6.alloc (.cells #[.string ρ.name, .slice pa ρ.params.length pc, .slice aa ρ.alts.length ac] 43))) := HT1.out.keep ((Below.refl _ _).alloc (Nat.le_refl _) _)
            have HCa : Hid ((w6.alloc (.cells #[.string ρ.name, .slice pa ρ.params.length pc, .slice aa ρ.alts.length ac] 43)).heap[R + 1]? = some (.cells #[.bool ch] 4 (0, 0))) := (((Below.refl w6.heap.size w6).alloc (Nat.le_refl _) _).block _ (Array.getElem?_eq_some_iff.1 HC1.out).1).trans HC1.out
            go_wp2_with fail
            generalize w6.alloc (.cells #[.string ρ.name, .slice pa ρ.params.length pc, .slice aa ρ.alts.length ac] 43) = w7 at *
            clear n0 n1 n2 HT1 HC1 HK1
            go_loopw [30] (fun kv wr => ∃ (k : Nat) (F : List Bool) (ch : Bool), kv = .int .i64 k ∧ k ≤ ρ.alts.length ∧ PsK g F0 F ch i k ∧ TabF tb F wr ∧ wr.heap[R + 1]? = some (.cells #[.bool ch] 4 (0, 0)) ∧ Kp (fun q => q = tb ∨ q = R + 1) W5 wr) (fun kv _ => ρ.alts.length - (intOf kv).toNat)
            case atStart => exact ⟨0, F1, ch, rfl, Nat.zero_le _, HPk.out, HTa.out, HCa.out, HKa.out⟩
            case round =>
              clear HTa HCa HKa HPk
              obtain ⟨k, F, cx, rfl, hkl, hps, ht, hc, hk⟩ := hrel
              obtain ⟨w8, rfl⟩ : ∃ W, W = wr := ⟨wr, rfl⟩
              have HPk : Hid (PsK g F0 F cx i k) := hps
              have HT8 : Hid (TabF tb F w8) := ht
              have HC8 : Hid (w8.heap[R + 1]? = some (.cells #[.bool cx] 4 (0, 0))) := hc
              have HK8 : Hid (Kp (fun q => q = tb ∨ q = R + 1) W5 w8) := hk
              clear hps ht hc hk
              by_cases hkt : k < ρ.alts.length
              · obtain ⟨be, oe, vse, rfl, _, hce, hEe⟩ := HAr.out.at hkt
                obtain ⟨re, rfl, hsy⟩ := hEe
                obtain ⟨as9, cs9, rfl⟩ := hsy.slice
                have m0 := cell_keep (hce 0 (by simp)) (HD.out _ HK8.out).1
                simp only [List.getElem_cons_zero, Nat.add_zero, Nat.mul_one] at m0
                have HSy : Hid (RowC 4 SymE w (.slice as9 ρ.alts[k].length cs9) ρ.alts[k]) := hsy
                have HO2 : Hid (∀ s ∈ ρ.alts[k], SymR g s) := HO1.out _ (List.getElem_mem hkt)
                have hyl : ρ.alts[k].length ≤ 1048576 := by
                  have h1 := rowTot_mem altTot (List.getElem_mem hkt)
                  have h2 : ρ.alts[k].length ≤ altTot ρ.alts[k] := rowTot_len symTot _
                  have h3 := HTot.out
                  omega
                have i6 : (k : Int) < (ρ.alts.length : Int) := by omega
                have HYs : Hid (∀ ys, ys = ρ.alts[k] → ∀ hq : k < (g.getD i default).alts.length, (g.getD i default).alts[k] = ys) := by
                  intro ys e hq
                  rw [e]
                  have h1 := Hρ.out
                  subst h1
                  rfl
                clear hce hsy
                generalize hys : ρ.alts[k] = ys at *
                have HQ := HYs.out ys rfl
                have HQ2 : Hid (∀ hq : k < (g.getD i default).alts.length, (g.getD i default).alts[k] = ys) := HQ
                clear HQ HYs hys
                have B9 : Hid (Below w8.heap.size w8 (w8.alloc (.cells #[.slice as9 ys.length cs9] 63))) := (Below.refl _ _).alloc (Nat.le_refl _) _
                have HT9 : Hid (TabF tb F (w8.alloc (.cells #[.slice as9 ys.length cs9] 63))) := HT8.out.keep B9.out
                have HC9 : Hid ((w8.alloc (.cells #[.slice as9 ys.length cs9] 63)).heap[R + 1]? = some (.cells #[.bool cx] 4 (0, 0))) := (B9.out.block _ (Array.getElem?_eq_some_iff.1 HC8.out).1).trans HC8.out
                have HK9 : Hid (Kp (fun q => q = tb ∨ q = R + 1) W5 (w8.alloc (.cells #[.slice as9 ys.length cs9] 63))) := HK8.out.trans (Kp.below B9.out)
                go_wp2_with fail
                clear HT8 HC8 HK8 B9 m0
                generalize w8.alloc (.cells #[.slice as9 ys.length cs9] 63) = w9 at *
                obtain ⟨bw9, hr9, hg9⟩ := HD.out _ HK9.out
                have hst := HSt.out _ bw9
                have hkt2 : k < (g.getD i default).alts.length := by rw [Hρ.out]; exact hkt
                refine (implJoin18_any g ys _ as9 gc cs9 tb R w.heap.size (R + 1) i F cx w9 hgl hyl hlt hst.1 (RowC.below SymE_stable HSy.out bw9) HO2.out HPk.out.len HT9.out hst.2.1 hr9 hg9 HC9.out HNe.out.1 HNe.out.2).mono ?_
                rintro e wz ⟨rfl, hkz, c, hc, hc0, htz, hcz⟩
                have HPn := HPk.out.next hlt hkt2 hc (by rw [hc0, HQ2.out hkt2])
                have HPz : Hid (PsK g F0 (stepK F i c) (cx || !(orL (chk F i) c == chk F i)) i (k + 1)) := HPn
                have HTz : Hid (TabF tb (stepK F i c) wz) := htz
                have HCz : Hid (wz.heap[R + 1]? = some (.cells #[.bool (cx || !(orL (chk F i) c == chk F i))] 4 (0, 0))) := hcz
                have HKz : Hid (Kp (fun q => q = tb ∨ q = R + 1) W5 wz) := HK9.out.trans hkz
                clear HPn htz hcz hkz hc hc0 bw9 hr9 hg9 hst HT9 HC9 HK9
                go_wp2
                go_roundw
                case rel => exact ⟨k + 1, _, _, by go_num, by omega, HPz.out, HTz.out, HCz.out, HKz.out⟩
                case measure => simp [intOf]; omega
              · obtain rfl : k = ρ.alts.length := by omega
                have i6 : ¬ ((ρ.alts.length : Int) < (ρ.alts.length : Int)) := by omega
                have HPf : Hid (PsI g F0 F cx (i + 1)) := by
                  have h1 := Hρ.out
                  subst h1
                  exact HPk.out.fin
                go_wp2
                go_roundw
                case rel => exact ⟨i + 1, _, _, by go_num, by omega, HPf.out, HT8.out, HC8.out, HK8.out⟩
                case measure => simp [intOf]; omega
          · obtain rfl : i = g.length := by omega
            have i4 : ¬ ((g.length : Int) < (g.length : Int)) := by omega
            have hless := HP1.out.less
            have HLe : Hid (left18 g F1 ch < left18 g F0 true) := hless
            clear hless
            go_wp2
            go_roundg (left18 g F1 ch)
            case measure => have := HLe.out; omega
            case rel => exact ⟨F1, ch, Nat.le_refl _, HP1.out.fin, HT1.out, HC1.out, HK1.out⟩
end Go.Proofs.YtofpoiccghpliaaGreatDoor

namespace Go.Proofs.YtofpoiccghpliaaGreatDoor
open Go.RowKit
set_option linter.unusedVariables false

set_option maxHeartbeats 6400000 in
set_option maxRecDepth 100000 in
theorem l18Null_any (v : Value) (xs : List RuleD) (w : World) (hg : grammarTot xs ≤ 1048576) (hG : gramB xs = true) (hv : RowC 3 RuleE w v xs) :
    Calls Tryz.prog 15 #[.agg #[v]] w fun e w' => ∃ g0 m, e = .returned (.slice (some ⟨g0, 0, none⟩) xs.length xs.length) ∧ OwnB18 w.heap.size (.slice (some ⟨g0, 0, none⟩) xs.length xs.length) m w' ∧ m.length = xs.length ∧ (∀ q, m.getD q false = lfB (nulE xs) xs.length q) ∧ Below w.heap.size w w' := by
  obtain ⟨ib, hib, hib0, hib1, hib2⟩ := info_parts Tryz.infoB18
  have hgl : xs.length ≤ 1048576 := Nat.le_trans (rowTot_len ruleTot xs) hg
  have hpos : 0 < xs.length := by
    have h1 := hG
    rw [gramB, Bool.and_eq_true, Bool.and_eq_true, decide_eq_true_eq] at h1
    have := h1.1.1.1
    omega
  obtain ⟨a, c, rfl⟩ := hv.slice
  obtain ⟨b, off, vs0, rfl, _, _, _⟩ := hv.at hpos
  have BW : Hid (Below w.heap.size w (w.alloc (.cells #[.slice (some ⟨b, off, none⟩) xs.length c] 30))) := (Below.refl _ _).alloc (Nat.le_refl _) _
  have hE : (w.alloc (.cells #[.slice (some ⟨b, off, none⟩) xs.length c] 30)).cell? ⟨w.heap.size, 0, none⟩ = some (.slice (some ⟨b, off, none⟩) xs.length c) := box_at _ _ _ 0 _ rfl
  have HR : Hid (RowC 3 RuleE (w.alloc (.cells #[.slice (some ⟨b, off, none⟩) xs.length c] 30)) (.slice (some ⟨b, off, none⟩) xs.length c) xs) := RowC.below RuleE_stable hv BW.out
  have HAt : Hid (∀ (s : ByteArray) W, Below (w.alloc (.cells #[.slice (some ⟨b, off, none⟩) xs.length c] 30)).heap.size (w.alloc (.cells #[.slice (some ⟨b, off, none⟩) xs.length c] 30)) W → Calls Tryz.prog 24 #[.agg #[.slice (some ⟨b, off, none⟩) xs.length c], .string s] W fun e w' => e = .returned (.int .i64 (ruleAtI xs s)) ∧ Below W.heap.size W w') := fun s W hW => specRuleAt_any (.slice (some ⟨b, off, none⟩) xs.length c) xs s W hgl (RowC.below RuleE_stable HR.out hW)
  have HG : Hid (gramB xs = true) := hG
  have HT : Hid (rowTot ruleTot xs ≤ 1048576) := hg
  have HS : Hid ((w.alloc (.cells #[.slice (some ⟨b, off, none⟩) xs.length c] 30)).heap.size = w.heap.size + 1) := by rw [Hid]; simp
  clear hv hG hg
  go_enter Tryz.func15, Tryz.ntmps15
  go_wp2_with (at_make; refine wpList_make_full _ rfl _ _ 39 rfl (w.alloc (.cells #[.slice (some ⟨b, off, none⟩) xs.length c] 30)).heap.size 4 ib _ 1 Tryz.underlying39 hib hib0 hib1 .i64 .i64 _ _ xs.length rfl rfl rfl rfl (by rw [hib2]; omega) (by unfold maxLen; omega) (Nat.le_refl _) ?_; intro w2 hown hg1; have HB2 : Hid (Below (w.alloc (.cells #[.slice (some ⟨b, off, none⟩) xs.length c] 30)).heap.size (w.alloc (.cells #[.slice (some ⟨b, off, none⟩) xs.length c] 30)) w2) := (Below.refl _ _).grown hg1 (Nat.le_refl _) (fun k h => by cases h); have HO2 : Hid (OwnB18 (w.alloc (.cells #[.slice (some ⟨b, off, none⟩) xs.length c] 30)).heap.size (.slice (some ⟨w.heap.size + 1, 0, none⟩) xs.length xs.length) (List.replicate xs.length false) w2) := by { rw [Hid, ← HS.out]; exact made_flags18 hown }; clear hown hg1)
  generalize (w.alloc (.cells #[.slice (some ⟨b, off, none⟩) xs.length c] 30)) = w0 at *
  go_loopw [4] (fun tv wr => ∃ (t : Nat) (m : List Bool), tv = .int .i64 t ∧ t ≤ xs.length + 1 ∧ RnT (nulE xs) xs.length m t ∧ OwnB18 w0.heap.size (.slice (some ⟨w.heap.size + 1, 0, none⟩) xs.length xs.length) m wr ∧ Below w0.heap.size w0 wr) (fun tv _ => xs.length + 1 - (intOf tv).toNat)
  case atStart => exact ⟨0, _, rfl, Nat.zero_le _, RnT.start, HO2.out, HB2.out⟩
  case round =>
    clear HO2 HB2
    obtain ⟨t, mR, rfl, ht, hrt, hrO, hrB⟩ := hrel
    obtain ⟨wt, rfl⟩ : ∃ W, W = wr := ⟨wr, rfl⟩
    have HRT : Hid (RnT (nulE xs) xs.length mR t) := hrt
    have HOt : Hid (OwnB18 w0.heap.size (.slice (some ⟨w.heap.size + 1, 0, none⟩) xs.length xs.length) mR wt) := hrO
    have HBt : Hid (Below w0.heap.size w0 wt) := hrB
    have hEt := cell_keep hE hrB
    clear hrt hrO hrB
    by_cases hlt : t ≤ xs.length
    · have i4 : (t : Int) ≤ (xs.length : Int) := by omega
      go_wp2
      go_loopw [5] (fun iv wr => ∃ (i : Nat) (m : List Bool), iv = .int .i64 i ∧ i ≤ xs.length ∧ RnI (nulE xs) xs.length mR m i ∧ OwnB18 w0.heap.size (.slice (some ⟨w.heap.size + 1, 0, none⟩) xs.length xs.length) m wr ∧ Below w0.heap.size w0 wr) (fun iv _ => xs.length - (intOf iv).toNat)
      case atStart => exact ⟨0, mR, rfl, Nat.zero_le _, RnI.start HRT.out.sn, HOt.out, HBt.out⟩
      case round =>
        clear HOt HBt hEt
        obtain ⟨i, m, rfl, hi, hri, hrO, hrB⟩ := hrel
        obtain ⟨wi, rfl⟩ : ∃ W, W = wr := ⟨wr, rfl⟩
        have HRI : Hid (RnI (nulE xs) xs.length mR m i) := hri
        have HOi : Hid (OwnB18 w0.heap.size (.slice (some ⟨w.heap.size + 1, 0, none⟩) xs.length xs.length) m wi) := hrO
        have HBi : Hid (Below w0.heap.size w0 wi) := hrB
        have hEi := cell_keep hE hrB
        clear hri hrO hrB
        by_cases hli : i < xs.length
        · have i5 : (i : Int) < (xs.length : Int) := by omega
          obtain ⟨b', off', vsr, e1, _, hcr, hEr⟩ := HR.out.at hli
          cases e1
          obtain ⟨r0, r1, rfl, _, ha⟩ := hEr
          have n2 : w0.cell? ⟨b, off + i * 3 + 2, none⟩ = some r1 := hcr 2 (by simp)
          have hat : rowTot altTot xs[i].alts ≤ 1048576 := by
            have h1 := rowTot_mem ruleTot (List.getElem_mem hli)
            have h2 : rowTot altTot xs[i].alts ≤ ruleTot xs[i] := by unfold ruleTot; omega
            have h3 := HT.out
            omega
          rw [← getR_is xs i hli] at ha hat
          obtain ⟨es, hes⟩ : ∃ es, (xs.getD i default).alts = es := ⟨_, rfl⟩
          have HEs : Hid ((xs.getD i default).alts = es) := hes
          rw [hes] at ha hat
          have HAt2 : Hid (rowTot altTot es ≤ 1048576) := hat
          have hal : es.length ≤ 1048576 := Nat.le_trans (rowTot_len altTot _) hat
          obtain ⟨aa, ca, rfl⟩ := ha.slice
          have HA : Hid (RowC 1 AltE w0 (.slice aa es.length ca) es) := ha
          clear hcr ha hat hes
          go_wp2
          go_loopw [6] (fun kv wr => ∃ (k : Nat) (m2 : List Bool), kv = .int .i64 k ∧ k ≤ es.length ∧ RnK xs mR m2 i k ∧ OwnB18 w0.heap.size (.slice (some ⟨w.heap.size + 1, 0, none⟩) xs.length xs.length) m2 wr ∧ Below w0.heap.size w0 wr) (fun kv _ => es.length - (intOf kv).toNat)
          case atStart => exact ⟨0, m, rfl, Nat.zero_le _, RnK.start HRI.out, HOi.out, HBi.out⟩
          case round =>
            clear HOi HBi hEi HRI
            obtain ⟨k, m2, rfl, hk, hrk, hrO, hrB⟩ := hrel
            obtain ⟨wk, rfl⟩ : ∃ W, W = wr := ⟨wr, rfl⟩
            have HRK : Hid (RnK xs mR m2 i k) := hrk
            have HOk : Hid (OwnB18 w0.heap.size (.slice (some ⟨w.heap.size + 1, 0, none⟩) xs.length xs.length) m2 wk) := hrO
            have HBk : Hid (Below w0.heap.size w0 wk) := hrB
            have hEk := cell_keep hE hrB
            have n2k := cell_keep n2 hrB
            have hm2 : m2.length = xs.length := hrk.rn.sn.len
            clear hrk hrO hrB
            by_cases hlk : k < es.length
            · have i6 : (k : Int) < (es.length : Int) := by omega
              obtain ⟨be, oe, vse, rfl, _, hce, hEe⟩ := HA.out.at hlk
              obtain ⟨re, rfl, hsy⟩ := hEe
              have m0 : w0.cell? ⟨be, oe + k * 1 + 0, none⟩ = some re := hce 0 (by simp)
              rw [Nat.mul_one, Nat.add_zero] at m0
              have m0k := cell_keep m0 HBk.out
              obtain ⟨as9, cs9, rfl⟩ := hsy.slice
              have HSy : Hid (RowC 4 SymE w0 (.slice as9 es[k].length cs9) es[k]) := hsy
              have HNx : Hid (RnK xs mR (m2.set i (m2.getD i false || altN xs m2 es[k])) i (k + 1)) := by
                have h1 := HRK.out.next hli (k := k) (by rw [HEs.out]; exact hlk)
                simp only [HEs.out] at h1
                exact h1
              have HPl : Hid (∀ s ∈ es[k], s.kind = 3 → 0 ≤ ruleAtI xs s.text ∧ ruleAtI xs s.text < (xs.length : Int)) := fun s hs h3 => call_place18 HG.out hli (by rw [HEs.out]; exact List.getElem_mem hlk) hs h3
              have hyl : es[k].length ≤ 1048576 := by
                have h1 := rowTot_mem altTot (List.getElem_mem hlk)
                have h2 : es[k].length ≤ altTot es[k] := rowTot_len symTot _
                have h3 := HAt2.out
                omega
              clear hce hsy
              generalize es[k] = ys at *
              go_wp2
              go_loopw [7, 9] (fun av jv wr => ∃ (j : Nat) (bo : Bool), jv = .int .i64 j ∧ j ≤ ys.length ∧ av = .bool bo ∧ (ys.take j).all (symN xs m2) = bo ∧ Below wk.heap.size wk wr) (fun _ jv _ => ys.length - (intOf jv).toNat)
              case atStart => exact ⟨0, true, rfl, Nat.zero_le _, rfl, rfl, Below.refl _ _⟩
              case round =>
                clear hEk n2k m0k
                obtain ⟨j, bo, rfl, hj, rfl, hbo, hrB⟩ := hrel
                obtain ⟨wj, rfl⟩ : ∃ W, W = wr := ⟨wr, rfl⟩
                have HBj : Hid (Below wk.heap.size wk wj) := hrB
                have hE0j : Below w0.heap.size w0 wj := HBk.out.trans (hrB.mono HBk.out.size)
                have HB0j : Hid (Below w0.heap.size w0 wj) := hE0j
                have hEj := cell_keep hE hE0j
                have HOj : Hid (OwnB18 w0.heap.size (.slice (some ⟨w.heap.size + 1, 0, none⟩) xs.length xs.length) m2 wj) := HOk.out.below hrB
                clear hrB
                by_cases hlj : j < ys.length
                · have i7 : (j : Int) < (ys.length : Int) := by omega
                  obtain ⟨bs, os, vss, rfl, _, hcs, hEs⟩ := HSy.out.at hlj
                  obtain ⟨rs, rfl, _⟩ := hEs
                  have s0 : w0.cell? ⟨bs, os + j * 4, none⟩ = some (.int .i64 ys[j].kind) := hcs 0 (by simp)
                  have s1 : w0.cell? ⟨bs, os + j * 4 + 1, none⟩ = some (.string ys[j].text) := hcs 1 (by simp)
                  have s0j := cell_keep s0 hE0j
                  have s1j := cell_keep s1 hE0j
                  have HAl : Hid ((ys.take (j + 1)).all (symN xs m2) = (bo && symN xs m2 ys[j])) := by rw [Hid, all_next18 hlj, hbo]
                  have HPj : Hid (ys[j].kind = 3 → 0 ≤ ruleAtI xs ys[j].text ∧ ruleAtI xs ys[j].text < (xs.length : Int)) := HPl.out _ (List.getElem_mem hlj)
                  have HSN : Hid (symN xs m2 ys[j] = (decide (ys[j].kind = 4) || (decide (ys[j].kind = 3) && m2.getD (ruleAtI xs ys[j].text).toNat false))) := rfl
                  clear hcs s0 s1 hE0j hbo
                  cases bo with
                  | false =>
                    have HAn : Hid ((ys.take (j + 1)).all (symN xs m2) = false) := by rw [Hid, HAl.out, Bool.false_and]
                    clear HAl HPj HSN
                    generalize ys[j].kind = kk at *
                    generalize ys[j].text = tx at *
                    go_wp2
                    go_quiet (fail)
                    go_wp2
                    go_roundw
                    case rel => exact ⟨j + 1, false, by go_num, by omega, rfl, HAn.out, bel_drewN HBj.out _⟩
                    case measure => simp [intOf]; omega
                  | true =>
                    rw [Bool.true_and] at HAl
                    by_cases h4 : ys[j].kind = 4
                    · have HAn : Hid ((ys.take (j + 1)).all (symN xs m2) = true) := by rw [Hid, HAl.out, HSN.out, decide_eq_true h4, Bool.true_or]
                      rw [h4] at s0j
                      clear HAl HPj HSN h4
                      generalize ys[j].text = tx at *
                      go_wp2
                      go_quiet (fail)
                      go_wp2
                      go_roundw
                      case rel => exact ⟨j + 1, true, by go_num, by omega, rfl, HAn.out, bel_drewN HBj.out _⟩
                      case measure => simp [intOf]; omega
                    · by_cases h3 : ys[j].kind = 3
                      · have hpl := HPj.out h3
                        obtain ⟨z, hz⟩ : ∃ z : Nat, ruleAtI xs ys[j].text = (z : Int) := ⟨(ruleAtI xs ys[j].text).toNat, by omega⟩
                        have i8 : (z : Int) < (xs.length : Int) := by omega
                        have cz := (HOj.out.at (k := z) (by omega)).1
                        have HAn : Hid ((ys.take (j + 1)).all (symN xs m2) = m2.getD z false) := by
                          rw [Hid, HAl.out, HSN.out, decide_eq_false h4, decide_eq_true h3, Bool.false_or, Bool.true_and, hz]
                          rfl
                        have HRJ : Hid (∀ _ : Unit, Calls Tryz.prog 24 #[.agg #[.slice (some ⟨b, off, none⟩) xs.length c], .string ys[j].text] wj.drew fun e w' => e = .returned (.int .i64 (z : Int)) ∧ Below wj.drew.heap.size wj.drew w') := fun _ => by
                          have h1 := HAt.out ys[j].text wj.drew ⟨HB0j.out.os, HB0j.out.tape, HB0j.out.output, HB0j.out.size, HB0j.out.block⟩
                          rw [hz] at h1
                          exact h1
                        rw [h3] at s0j
                        clear HAl HPj HSN h4 h3 hpl hz
                        generalize ys[j].text = tx at *
                        generalize m2.getD z false = fl at *
                        go_wp2
                        go_region_held3 (fun W => W.cell? ⟨w.heap.size, 0, none⟩ = some (.slice (some ⟨b, off, none⟩) xs.length c) ∧ W.cell? ⟨bs, os + j * 4, none⟩ = some (.int .i64 3) ∧ W.cell? ⟨bs, os + j * 4 + 1, none⟩ = some (.string tx) ∧ W.cell? ⟨w.heap.size + 1, z, none⟩ = some (.bool fl))
                          ((first | exact keep4_18 (by assumption) hb6 | go_keep))
                          ((first | (go_at_call 24; refine (HRJ.out ()).mono ?_; rintro e w6 ⟨rfl, hb6⟩)))
                        have B6 : Hid (Below wk.heap.size wk w6) := HBj.out.trans ((bel_of_drew hb6).mono HBj.out.size)
                        clear hb6
                        go_wp2
                        go_roundw
                        case rel => exact ⟨j + 1, fl, by go_num, by omega, rfl, HAn.out, B6.out⟩
                        case measure => simp [intOf]; omega
                      · have b4 : (ys[j].kind == 4) = false := beq_eq_false_iff_ne.2 h4
                        have b3 : (ys[j].kind == 3) = false := beq_eq_false_iff_ne.2 h3
                        have HAn : Hid ((ys.take (j + 1)).all (symN xs m2) = false) := by rw [Hid, HAl.out, HSN.out, decide_eq_false h4, decide_eq_false h3, Bool.false_or, Bool.false_and]
                        clear HAl HPj HSN h4 h3
                        generalize ys[j].kind = kk at *
                        generalize ys[j].text = tx at *
                        go_wp2
                        go_quiet (fail)
                        go_wp2
                        go_roundw
                        case rel => exact ⟨j + 1, false, by go_num, by omega, rfl, HAn.out, bel_drewN HBj.out _⟩
                        case measure => simp [intOf]; omega
                · obtain rfl : j = ys.length := by omega
                  have i7 : ¬ (ys.length : Int) < (ys.length : Int) := by omega
                  rw [List.take_length] at hbo
                  have hNx := HNx.out
                  rw [altN, hbo] at hNx
                  have cm := (HOj.out.at (k := i) (by omega)).1
                  have fm := (HOj.out.at (k := i) (by omega)).2
                  have HSt : Hid (∀ u : Bool, OwnB18 w0.heap.size (.slice (some ⟨w.heap.size + 1, 0, none⟩) xs.length xs.length) (m2.set i u) (wj.setCell ⟨w.heap.size + 1, i, none⟩ (.bool u)) ∧ Below w0.heap.size w0 (wj.setCell ⟨w.heap.size + 1, i, none⟩ (.bool u))) := fun u => ⟨HOj.out.set i u, HB0j.out.setCell (by rw [HS.out]; exact Nat.le_refl _) _⟩
                  clear hbo HNx
                  cases hmi : m2.getD i false with
                  | true =>
                    rw [hmi] at cm hNx
                    rw [Bool.true_or] at hNx
                    have HNy : Hid (RnK xs mR (m2.set i true) i (k + 1)) := hNx
                    clear hNx hmi
                    go_wp2
                    go_roundw
                    case rel => exact ⟨k + 1, _, by go_num, by omega, HNy.out, (HSt.out true).1, (HSt.out true).2⟩
                    case measure => simp [intOf]; omega
                  | false =>
                    rw [hmi] at cm hNx
                    rw [Bool.false_or] at hNx
                    have HNy : Hid (RnK xs mR (m2.set i bo) i (k + 1)) := hNx
                    clear hNx hmi
                    go_wp2
                    go_roundw
                    case rel => exact ⟨k + 1, _, by go_num, by omega, HNy.out, (HSt.out bo).1, (HSt.out bo).2⟩
                    case measure => simp [intOf]; omega
            · obtain rfl : k = es.length := by omega
              have i6 : ¬ (es.length : Int) < (es.length : Int) := by omega
              have HRn : Hid (RnI (nulE xs) xs.length mR m2 (i + 1)) := RnK.fin (by rw [HEs.out]; exact HRK.out)
              go_wp2
              go_roundw
              case rel => exact ⟨i + 1, m2, by go_num, by omega, HRn.out, HOk.out, HBk.out⟩
              case measure => simp [intOf]; omega
        · obtain rfl : i = xs.length := by omega
          have i5 : ¬ (xs.length : Int) < (xs.length : Int) := by omega
          have HRn : Hid (RnT (nulE xs) xs.length m (t + 1)) := RnI.fin HRT.out HRI.out
          go_wp2
          go_roundw
          case rel => exact ⟨t + 1, m, by go_num, by omega, HRn.out, HOi.out, HBi.out⟩
          case measure => simp [intOf]; omega
    · obtain rfl : t = xs.length + 1 := by omega
      have i4 : ¬ ((xs.length + 1 : Nat) : Int) ≤ (xs.length : Int) := by omega
      have i4' : ¬ (xs.length : Int) + 1 ≤ (xs.length : Int) := by omega
      have hO : OwnB18 w.heap.size (.slice (some ⟨w.heap.size + 1, 0, none⟩) xs.length xs.length) mR wt := World.ownsRow.mono HOt.out (by rw [HS.out]; omega)
      have hB : Below w.heap.size w wt := BW.out.trans (HBt.out.mono BW.out.size)
      have hF : ∀ q, mR.getD q false = lfB (nulE xs) xs.length q := fun q => HRT.out.fin q
      have HF : Hid _ := hF
      have HO : Hid _ := hO
      have HB : Hid _ := hB
      clear hF hO hB
      go_wp2
      go_ret
      exact ⟨_, rfl, mR, HO.out, HRT.out.sn.len, HF.out, HB.out⟩

end Go.Proofs.YtofpoiccghpliaaGreatDoor
