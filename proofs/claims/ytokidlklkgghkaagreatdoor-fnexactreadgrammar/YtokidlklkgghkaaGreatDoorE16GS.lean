/- The specification's GrammarText (printed by mk/e16gs.py). -/
import Derived.Test.YtokidlklkgghkaaGreatDoorINam
import Derived.Test.YtokidlklkgghkaaGreatDoorE16S
import Derived.Test.YtokidlklkgghkaaGreatDoorGmA
import Derived.Test.YtokidlklkgghkaaGreatDoorTurnPure
import Derived.Deep.CutRange
namespace Go.Proofs.YtokidlklkgghkaaGreatDoor
open Go.RowKit
set_option linter.unusedVariables false

theorem hkeep2 {W W' : World} {a0 a1 : Addr} {x0 x1 : Value} (h : W.cell? a0 = some x0 ∧ W.cell? a1 = some x1) (hb : Below W.heap.size W W') : W'.cell? a0 = some x0 ∧ W'.cell? a1 = some x1 := ⟨cell_keep h.1 hb, cell_keep h.2 hb⟩
theorem hkeep4 {W W' : World} {a0 a1 a2 a3 : Addr} {x0 x1 x2 x3 : Value} (h : W.cell? a0 = some x0 ∧ W.cell? a1 = some x1 ∧ W.cell? a2 = some x2 ∧ W.cell? a3 = some x3) (hb : Below W.heap.size W W') : W'.cell? a0 = some x0 ∧ W'.cell? a1 = some x1 ∧ W'.cell? a2 = some x2 ∧ W'.cell? a3 = some x3 :=
  ⟨cell_keep h.1 hb, cell_keep h.2.1 hb, cell_keep h.2.2.1 hb, cell_keep h.2.2.2 hb⟩
theorem step16 {α : Type} (f : α → List UInt8) (xs : List α) (k : Nat) (h : k < xs.length) (L : List UInt8) : L ++ (varB xs.length ++ ((xs.take (k + 1)).map f).flatten) = (L ++ (varB xs.length ++ ((xs.take k).map f).flatten)) ++ f xs[k] := by
  rw [listW_next f xs k h, List.append_assoc, List.append_assoc, List.append_assoc]
theorem len16 {α : Type} (f : α → List UInt8) (xs : List α) (k : Nat) (L : List UInt8) : (L ++ (varB xs.length ++ ((xs.take k).map f).flatten)).length ≤ L.length + (listW f xs).length := by
  have := flat_take_le f xs k
  rw [List.length_append]
  omega
theorem end16 {α : Type} (f : α → List UInt8) (xs : List α) (L : List UInt8) : L ++ (varB xs.length ++ ((xs.take xs.length).map f).flatten) = L ++ listW f xs := by rw [List.take_length]; rfl
theorem start16 {α : Type} (f : α → List UInt8) (xs : List α) (L : List UInt8) : L ++ (varB xs.length ++ ((xs.take 0).map f).flatten) = L ++ varB xs.length := by rw [List.take_zero, List.map_nil, List.flatten_nil, List.append_nil]
/-- A sum of two texts under a letter of its own. -/
theorem sum16 (a b : List UInt8) (h : a.length + b.length ≤ 9223372036854775807) : ∃ L, Hid (L = a ++ b) ∧ L.length = a.length + b.length ∧ ∀ W, (Op.stringOp .add (str a) (str b)).run Tryz.prog W = .ok (.string (str L)) W :=
  ⟨_, rfl, List.length_append, fun W => run_add_str (P := Tryz.prog) W a b h⟩

set_option maxHeartbeats 12800000 in
set_option maxRecDepth 100000 in
theorem specGrammarText_any (v : Value) (g : List RuleD) (w : World) (hz : grammarTot g ≤ 1048576) (hin : GrammarIn g) (h : RowC 3 RuleE w v g) :
    Calls Tryz.prog 13 #[.agg #[v]] w fun e w' => e = .returned (.tuple #[.string (str (gramT g)), .bool (gramO g)]) ∧ Below w.heap.size w w' := by
  have HR : Hid (RowC 3 RuleE w v g) := h
  have HZ : Hid (grammarTot g ≤ 1048576) := hz
  have HI : Hid (GrammarIn g) := hin
  have hgl : g.length ≤ 1048576 := Nat.le_trans (rowTot_len ruleTot g) hz
  obtain ⟨a, cap, rfl⟩ := h.slice
  clear h hz hin
  have B0 : Hid (Below w.heap.size w (w.alloc (.cells #[.slice a g.length cap] 24))) := (Below.refl _ _).alloc (Nat.le_refl _) _
  have E0 : (w.alloc (.cells #[.slice a g.length cap] 24)).cell? ⟨w.heap.size, 0, none⟩ = some (.slice a g.length cap) := cell_new16 _ _ _
  go_enter Tryz.func13, Tryz.ntmps13
  go_wp2_with fail
  generalize w.alloc (.cells #[.slice a g.length cap] 24) = w0 at *
  refine (specGrammarOk_any _ g _ HZ.out HI.out (RowC.below RuleE_stable HR.out B0.out)).mono ?_
  rintro e w1 ⟨rfl, hb1⟩
  have B1 : Hid (Below w.heap.size w w1) := B0.out.trans (hb1.mono B0.out.size)
  by_cases hb : gramB g = true
  rotate_left
  · have hb' : gramB g = false := by simpa using hb
    have HO : Hid (gramO g = false) := by rw [Hid, gramO, hb']; rfl
    have HT : Hid (gramT g = []) := by rw [Hid, gramT, if_neg (by rw [HO.out]; decide)]
    rw [hb']
    clear hb hb' E0 hb1
    go_wp2
    go_ret2
    rw [HT.out, HO.out]
    exact ⟨rfl, B1.out⟩
  have HK : Hid (∀ r ∈ g, RuleK r) := gram_k hb
  have HO : Hid (gramO g = decide ((gramW g).length + 4 ≤ 20000)) := by rw [Hid, gramO, hb, Bool.true_and]
  have HGl : Hid ((gramW g).length ≤ 500000000) := by have h1 := gramW_le g; have h2 := HZ.out; rw [Hid]; omega
  have e1 := cell_keep E0 hb1
  rw [hb]
  clear hb hb1 E0 B0
  go_wp2_with (go_at_call 30; refine (l01Var_any _ _ (by omega)).mono ?_; rintro e w2 ⟨rfl, hb2⟩)
  have B2 : Hid (Below w.heap.size w w2) := B1.out.trans (hb2.mono B1.out.size)
  have e2 := cell_keep e1 hb2
  clear hb2 e1 B1
  go_wp2
  go_loopw [4, 5] (fun sv iv wr => ∃ k : Nat, sv = .string (str (varB g.length ++ ((g.take k).map ruleW).flatten)) ∧ iv = .int .i64 k ∧ k ≤ g.length ∧ Below w2.heap.size w2 wr) (fun _ iv _ => g.length - (intOf iv).toNat)
  case atStart => exact ⟨0, by rw [List.take_zero, List.map_nil, List.flatten_nil, List.append_nil], rfl, Nat.zero_le _, Below.refl _ _⟩
  case round =>
    obtain ⟨k, rfl, rfl, hkl, hbr⟩ := hrel
    have BR : Hid (Below w2.heap.size w2 wr) := hbr
    have B3 : Hid (Below w.heap.size w wr) := B2.out.trans (hbr.mono B2.out.size)
    have e3 := cell_keep e2 hbr
    clear hbr
    by_cases hlt : k < g.length
    rotate_left
    · obtain rfl : k = g.length := by omega
      have HE : Hid (varB g.length ++ ((g.take g.length).map ruleW).flatten = gramW g) := by rw [Hid, List.take_length]; rfl
      rw [HE.out]
      by_cases hs : (gramW g).length ≤ 20000
      · have HSl : Hid ((sealB (gramW g)).length = (gramW g).length + 4) := by rw [Hid, sealB, List.length_append, four_len16]
        go_wp2_with fail
        refine (specSealed_yes (str (gramW g)) _ (by rw [str_size]; exact hs)).mono ?_
        rintro e w4 ⟨rfl, hb4⟩
        rw [str_list]
        have B4 : Hid (Below w.heap.size w w4) := B3.out.trans (hb4.mono B3.out.size)
        clear hb4
        by_cases ht : (gramW g).length + 4 ≤ 20000
        · have HOt : Hid (gramO g = true) := by rw [Hid, HO.out, decide_eq_true ht]
          have HT : Hid (str (gramT g) = str (sealB (gramW g))) := by rw [Hid, gramT, if_pos HOt.out]; rfl
          have q1 : ¬ (20000 : Int) < ((str (sealB (gramW g))).size : Int) := by rw [str_size, HSl.out]; omega
          clear ht hs HSl
          generalize str (sealB (gramW g)) = sx at *
          go_wp2
          go_ret2
          rw [HT.out, HOt.out]
          exact ⟨rfl, B4.out⟩
        · have HOt : Hid (gramO g = false) := by rw [Hid, HO.out, decide_eq_false ht]
          have HT : Hid (gramT g = []) := by rw [Hid, gramT, if_neg (by rw [HOt.out]; decide)]
          have q1 : (20000 : Int) < ((str (sealB (gramW g))).size : Int) := by rw [str_size, HSl.out]; omega
          clear ht hs HSl
          generalize str (sealB (gramW g)) = sx at *
          go_wp2
          go_ret2
          rw [HT.out, HOt.out]
          exact ⟨rfl, B4.out⟩
      · have HOt : Hid (gramO g = false) := by rw [Hid, HO.out, decide_eq_false (by omega)]
        have HT : Hid (gramT g = []) := by rw [Hid, gramT, if_neg (by rw [HOt.out]; decide)]
        go_wp2_with fail
        refine (specSealed_no (str (gramW g)) _ (by rw [str_size]; omega)).mono ?_
        rintro e wq ⟨rfl, hw⟩
        rw [hw]
        clear hw wq
        clear hs
        go_wp2
        go_ret2
        rw [HT.out, HOt.out]
        exact ⟨rfl, B3.out⟩
    obtain ⟨b, off, pa, pc, ea, ec, rfl, n0, n1, n2, hP, hE⟩ := grule_at (RowC.below RuleE_stable HR.out B3.out) hlt
    have i4 : (k : Int) < (g.length : Int) := by omega
    have HRK : Hid (RuleK g[k]) := HK.out _ (List.getElem_mem hlt)
    have HRI : Hid (RuleIn g[k]) := HI.out.2 _ (List.getElem_mem hlt)
    have HRt : Hid (ruleTot g[k] ≤ 1048576) := Nat.le_trans (rowTot_mem ruleTot (List.getElem_mem hlt)) HZ.out
    have HN : Hid (varB g.length ++ ((g.take (k + 1)).map ruleW).flatten = (varB g.length ++ ((g.take k).map ruleW).flatten) ++ ruleW g[k]) := listW_next ruleW g k hlt
    have hpl : (varB g.length ++ ((g.take k).map ruleW).flatten).length ≤ 500000000 := Nat.le_trans (flat_take_le ruleW g k) HGl.out
    have HP : Hid (SRow wr (.slice pa g[k].params.length pc) g[k].params) := hP
    have HEr : Hid (RowC 1 AltE wr (.slice ea g[k].alts.length ec) g[k].alts) := hE
    clear hP hE
    generalize g[k] = r at *
    generalize varB g.length ++ ((g.take k).map ruleW).flatten = pre at *
    have hrt : r.name.size + rowTot ByteArray.size r.params + rowTot altTot r.alts ≤ 1048576 := HRt.out
    have htn : r.name.size ≤ 1048576 := by omega
    have hpn : r.params.length ≤ 1048576 := Nat.le_trans (rowTot_len ByteArray.size r.params) (by omega)
    have han : r.alts.length ≤ 1048576 := Nat.le_trans (rowTot_len altTot r.alts) (by omega)
    have HLp : Hid ((listW shortW r.params).length ≤ 500000000) := by
      have := listW_le (f := shortW) (t := ByteArray.size) (c := 400) (d := 1) (by omega) (xs := r.params) fun x _ => by have := shortW_le x; omega
      rw [Hid]; omega
    have HLa : Hid ((listW altW r.alts).length ≤ 500000000) := by
      have := listW_le (f := altW) (t := altTot) (c := 400) (d := 1) (by omega) (xs := r.alts) fun x _ => altW_le x
      rw [Hid]; omega
    have HPs : Hid (∀ p ∈ r.params, p.size ≤ 1048576) := fun p hp => by have := rowTot_mem ByteArray.size hp; omega
    have HAt : Hid (∀ x ∈ r.alts, altTot x ≤ 1048576) := fun x hx => by have := rowTot_mem altTot hx; omega
    have hv0 := shortW_le r.name
    have hv1 := varB_len r.params.length
    have hv2 := varB_len r.alts.length
    clear hrt
    obtain ⟨L1, hL1, hl1, a1⟩ := sum16 pre (shortW r.name) (by omega)
    obtain ⟨L2, hL2, hl2, a2⟩ := sum16 L1 (varB r.params.length) (by omega)
    have HL1l : Hid (L1.length ≤ 600000000) := by rw [Hid]; omega
    clear hl2 hv0 hv1 hl1
    have HB : Hid (Below wr.heap.size wr (wr.alloc (.cells #[.string r.name, .slice pa r.params.length pc, .slice ea r.alts.length ec] 40))) := (Below.refl _ _).alloc (Nat.le_refl _) _
    have bx := heap_alloc_new wr (.cells #[.string r.name, .slice pa r.params.length pc, .slice ea r.alts.length ec] 40)
    have x0 : (wr.alloc (.cells #[.string r.name, .slice pa r.params.length pc, .slice ea r.alts.length ec] 40)).cell? ⟨wr.heap.size, 0, none⟩ = some (.string r.name) := by rw [cell_of_row _ _ 0 _ _ _ bx]; rfl
    have x1 : (wr.alloc (.cells #[.string r.name, .slice pa r.params.length pc, .slice ea r.alts.length ec] 40)).cell? ⟨wr.heap.size, 1, none⟩ = some (.slice pa r.params.length pc) := by rw [cell_of_row _ _ 1 _ _ _ bx]; rfl
    have x2 : (wr.alloc (.cells #[.string r.name, .slice pa r.params.length pc, .slice ea r.alts.length ec] 40)).cell? ⟨wr.heap.size, 2, none⟩ = some (.slice ea r.alts.length ec) := by rw [cell_of_row _ _ 2 _ _ _ bx]; rfl
    clear bx
    go_wp2_with fail
    generalize wr.alloc (.cells #[.string r.name, .slice pa r.params.length pc, .slice ea r.alts.length ec] 40) = wb at *
    go_cut [4] from 35 to 44 (fun sv wx => sv = .string (str L2) ∧ Below wb.heap.size wb wx)
    case first =>
      refine wp_region_held_drew (S := fun W => W.cell? ⟨wr.heap.size, 0, none⟩ = some (.string r.name) ∧ W.cell? ⟨wr.heap.size, 1, none⟩ = some (.slice pa r.params.length pc)) (by kernel_rfl) ?_ (fun hHeld => ?_)
      · (try dsimp only)
        go_keep
      refine wpAnyH_takeD (i := 0) (v := ?_) (d := some 35) rfl rfl (by kernel_rfl) (by kernel_rfl) (by kernel_rfl) (fun _ _ _ h => h) (Or.inl ⟨by rfl, ?_⟩) hHeld ?_
      rotate_left
      · intro w hSw
        (try dsimp only at hSw)
        go_simp
        (try with_reducible rfl)
      refine wpAnyH_takeD (i := 1) (v := ?_) (d := some 36) rfl rfl (by kernel_rfl) (by kernel_rfl) (by kernel_rfl) (fun _ _ _ h => h) (Or.inl ⟨by rfl, ?_⟩) hHeld ?_
      rotate_left
      · intro w hSw
        (try dsimp only at hSw)
        go_simp
        (try with_reducible rfl)
      refine wpAnyH_takeD (i := 2) (v := ?_) (d := some 37) rfl rfl (by kernel_rfl) (by kernel_rfl) (by kernel_rfl) (fun _ _ _ h => h) (Or.inl ⟨by rfl, ?_⟩) hHeld ?_
      rotate_left
      · intro w hSw
        (try dsimp only at hSw)
        go_simp
        (try with_reducible rfl)
      refine wpAnyH_takeD (i := 5) (v := ?_) (d := some 40) rfl rfl (by kernel_rfl) (by kernel_rfl) (by kernel_rfl) (fun _ _ _ h => h) (Or.inl ⟨by rfl, ?_⟩) hHeld ?_
      rotate_left
      · intro w hSw
        (try dsimp only at hSw)
        go_simp
        (try with_reducible rfl)
      refine wpAnyH_takeD (i := 6) (v := ?_) (d := some 41) rfl rfl (by kernel_rfl) (by kernel_rfl) (by kernel_rfl) (fun _ _ _ h => h) (Or.inl ⟨by rfl, ?_⟩) hHeld ?_
      rotate_left
      · intro w hSw
        (try dsimp only at hSw)
        go_simp
        (try with_reducible rfl)
      refine wpAnyH_takeD (i := 7) (v := ?_) (d := some 42) rfl rfl (by kernel_rfl) (by kernel_rfl) (by kernel_rfl) (fun _ _ _ h => h) (Or.inl ⟨by rfl, ?_⟩) hHeld ?_
      rotate_left
      · intro w hSw
        (try dsimp only at hSw)
        go_simp
        (try with_reducible rfl)
      refine wpAnyH_ready (rs := [3]) (by kernel_rfl) (by simp) ?_
      refine AllReadyH.cons rfl (fun K hK => ?_) (AllReadyH.nil)
      go_simp
      refine Calls.mono (l16Short_any r.name _ (by omega)) ?_
      rintro e wv ⟨rfl, hbv⟩
      (try dsimp only)
      refine hK.out _ _ ?_ (fun hHeld => ?_)
      · (try dsimp only)
        exact hkeep2 hHeld hbv
      clear hK K
      refine wpAnyH_takeD (i := 4) (v := ?_) (d := some 39) rfl rfl (by kernel_rfl) (by kernel_rfl) (by kernel_rfl) (fun _ _ _ h => h) (Or.inl ⟨by rfl, ?_⟩) hHeld ?_
      rotate_left
      · intro w hSw
        (try dsimp only at hSw)
        go_simp
        (try with_reducible rfl)
      refine wpAnyH_ready (rs := [8]) (by kernel_rfl) (by simp) ?_
      refine AllReadyH.cons rfl (fun K hK => ?_) (AllReadyH.nil)
      go_simp
      refine Calls.mono (l01Var_any r.params.length _ (by omega)) ?_
      rintro e ws ⟨rfl, hbs⟩
      (try dsimp only)
      refine hK.out _ _ ?_ (fun hHeld => ?_)
      · (try dsimp only)
        exact hkeep2 hHeld hbs
      clear hK K
      refine wpAnyH_takeD (i := 9) (v := ?_) (d := some 44) rfl rfl (by kernel_rfl) (by kernel_rfl) (by kernel_rfl) (fun _ _ _ h => h) (Or.inl ⟨by rfl, ?_⟩) hHeld ?_
      rotate_left
      · intro w hSw
        (try dsimp only at hSw)
        go_simp
        (try with_reducible rfl)
      refine wpAnyH_takeD (i := 10) (v := ?_) (d := some 4) rfl rfl (by kernel_rfl) (by kernel_rfl) (by kernel_rfl) (fun _ _ _ h => h) (Or.inl ⟨by rfl, ?_⟩) hHeld ?_
      rotate_left
      · intro w hSw
        (try dsimp only at hSw)
        go_simp
        (try with_reducible rfl)
      refine wpAnyH_done (by kernel_rfl) ?_ _
      (try go_wp2_with fail)
      go_meet
      exact ⟨rfl, (bl_call (bl_callD (Below.refl wb.heap.size wb) hbv) hbs)⟩
    case rest =>
      obtain ⟨rfl, hbw⟩ := hcut
      have HBw : Hid (Below wr.heap.size wr wc) := HB.out.trans (hbw.mono HB.out.size)
      have q1 := cell_keep x1 hbw
      have q2 := cell_keep x2 hbw
      have BWc : Hid (Below w.heap.size w wc) := B3.out.trans (HBw.out.mono B3.out.size)
      have BRc : Hid (Below w2.heap.size w2 wc) := BR.out.trans (HBw.out.mono BR.out.size)
      have HPc : Hid (SRow wc (.slice pa r.params.length pc) r.params) := HP.out.below HBw.out
      have HEc : Hid (RowC 1 AltE wc (.slice ea r.alts.length ec) r.alts) := RowC.below AltE_stable HEr.out HBw.out
      clear hbw x0 x1 x2 a1 a2 HB HBw n0 n1 n2 e3 B3 BR HP HEr
      generalize wr.heap.size = bx at *
      go_wp2
      go_loopw [4, 7] (fun sv iv wr => ∃ j : Nat, sv = .string (str (L1 ++ (varB r.params.length ++ ((r.params.take j).map shortW).flatten))) ∧ iv = .int .i64 j ∧ j ≤ r.params.length ∧ Below wc.heap.size wc wr) (fun _ iv _ => r.params.length - (intOf iv).toNat)
      case atStart => exact ⟨0, by rw [start16, hL2.out], rfl, Nat.zero_le _, Below.refl _ _⟩
      case round =>
        obtain ⟨j, rfl, rfl, hjl, hbj⟩ := hrel
        have BJ : Hid (Below wc.heap.size wc wr) := hbj
        have r1 := cell_keep q1 hbj
        have r2 := cell_keep q2 hbj
        clear hbj
        by_cases hjt : j < r.params.length
        · obtain ⟨gp, op, rfl, hc⟩ := (HPc.out.below BJ.out).at hjt
          have i6 : (j : Int) < (r.params.length : Int) := by omega
          have hps := HPs.out r.params[j] (List.getElem_mem hjt)
          have HNj : Hid (L1 ++ (varB r.params.length ++ ((r.params.take (j + 1)).map shortW).flatten) = (L1 ++ (varB r.params.length ++ ((r.params.take j).map shortW).flatten)) ++ shortW r.params[j]) := step16 shortW r.params j hjt L1
          have hll : (L1 ++ (varB r.params.length ++ ((r.params.take j).map shortW).flatten)).length ≤ 1200000000 := by
            have h1 := len16 shortW r.params j L1
            have h2 := HLp.out
            have h3 := HL1l.out
            omega
          generalize r.params[j] = p at *
          generalize L1 ++ (varB r.params.length ++ ((r.params.take j).map shortW).flatten) = pr at *
          have hsp := shortW_le p
          have had := fun W => run_add_str (P := Tryz.prog) W pr (shortW p) (by omega)
          clear hsp
          go_wp2_with (go_at_call 31; refine (l16Short_any p _ hps).mono ?_; rintro e w5 ⟨rfl, hb5⟩)
          have BF : Hid (Below wc.heap.size wc w5) := BJ.out.trans (hb5.mono BJ.out.size)
          clear hb5
          go_roundw
          case rel => exact ⟨j + 1, by rw [HNj.out], by go_num, by omega, BF.out⟩
          case measure => simp [intOf]; omega
        · obtain rfl : j = r.params.length := by omega
          rw [end16]
          obtain ⟨L3, hL3⟩ : ∃ L3, Hid (L3 = L1 ++ listW shortW r.params) := ⟨_, rfl⟩
          have hl3 : L3.length ≤ 1200000000 := by
            have h1 := congrArg List.length hL3.out
            have h2 := HLp.out
            have h3 := HL1l.out
            rw [List.length_append] at h1
            omega
          rw [← hL3.out]
          obtain ⟨L4, hL4, hl4, a4⟩ := sum16 L3 (varB r.alts.length) (by omega)
          have BWj : Hid (Below w.heap.size w wr) := BWc.out.trans (BJ.out.mono BWc.out.size)
          have BRj : Hid (Below w2.heap.size w2 wr) := BRc.out.trans (BJ.out.mono BRc.out.size)
          have HEj : Hid (RowC 1 AltE wr (.slice ea r.alts.length ec) r.alts) := RowC.below AltE_stable HEc.out BJ.out
          clear BWc BRc HEc BJ HPc q1 q2 hl4
          go_wp2_with (go_at_call 30; refine (l01Var_any r.alts.length _ (by omega)).mono ?_; rintro e w6 ⟨rfl, hb6⟩)
          have BW6 : Hid (Below w.heap.size w w6) := BWj.out.trans (hb6.mono BWj.out.size)
          have BR6 : Hid (Below w2.heap.size w2 w6) := BRj.out.trans (hb6.mono BRj.out.size)
          have HE6 : Hid (RowC 1 AltE w6 (.slice ea r.alts.length ec) r.alts) := RowC.below AltE_stable HEj.out hb6
          have s2 := cell_keep r2 hb6
          have HFin : Hid (varB g.length ++ ((g.take (k + 1)).map ruleW).flatten = L3 ++ listW altW r.alts) := by
            rw [Hid, HN.out, ruleW, hL3.out, hL1.out, List.append_assoc, List.append_assoc]
          clear hb6 BWj BRj HEj r2 r1
          go_wp2
          go_loopw [4, 8] (fun sv iv wr => ∃ q : Nat, sv = .string (str (L3 ++ (varB r.alts.length ++ ((r.alts.take q).map altW).flatten))) ∧ iv = .int .i64 q ∧ q ≤ r.alts.length ∧ Below w6.heap.size w6 wr) (fun _ iv _ => r.alts.length - (intOf iv).toNat)
          case atStart => exact ⟨0, by rw [start16, hL4.out], rfl, Nat.zero_le _, Below.refl _ _⟩
          case round =>
            obtain ⟨q, rfl, rfl, hql, hbq⟩ := hrel
            have BQ : Hid (Below w6.heap.size w6 wr) := hbq
            have t2 := cell_keep s2 hbq
            clear hbq
            by_cases hqt : q < r.alts.length
            rotate_left
            · obtain rfl : q = r.alts.length := by omega
              have HEx : Hid (str (L3 ++ (varB r.alts.length ++ ((r.alts.take r.alts.length).map altW).flatten)) = str (varB g.length ++ ((g.take (k + 1)).map ruleW).flatten)) := by rw [Hid, end16, HFin.out]
              have BF : Hid (Below w2.heap.size w2 wr) := BR6.out.trans (BQ.out.mono BR6.out.size)
              rw [HEx.out]
              go_wp2
              go_roundw
              case rel => exact ⟨k + 1, rfl, by go_num, by omega, BF.out⟩
              case measure => simp [intOf]; omega
            obtain ⟨ga, oa, sa, sc, rfl, hca, hS⟩ := galt_at (RowC.below AltE_stable HE6.out BQ.out) hqt
            have i8 : (q : Int) < (r.alts.length : Int) := by omega
            have HAK : Hid (∀ s ∈ r.alts[q], SymK s) := HRK.out _ (List.getElem_mem hqt)
            have HAI : Hid (AltIn r.alts[q]) := HRI.out.2.2.2 _ (List.getElem_mem hqt)
            have hat : altTot r.alts[q] ≤ 1048576 := HAt.out _ (List.getElem_mem hqt)
            have HNq : Hid (L3 ++ (varB r.alts.length ++ ((r.alts.take (q + 1)).map altW).flatten) = (L3 ++ (varB r.alts.length ++ ((r.alts.take q).map altW).flatten)) ++ altW r.alts[q]) := step16 altW r.alts q hqt L3
            have hpq : (L3 ++ (varB r.alts.length ++ ((r.alts.take q).map altW).flatten)).length ≤ 1800000000 := by
              have h1 := len16 altW r.alts q L3
              have h2 := HLa.out
              omega
            have HSr : Hid (RowC 4 SymE wr (.slice sa r.alts[q].length sc) r.alts[q]) := hS
            clear hS
            generalize r.alts[q] = al at *
            generalize L3 ++ (varB r.alts.length ++ ((r.alts.take q).map altW).flatten) = p2 at *
            have hsn : al.length ≤ 1048576 := Nat.le_trans (rowTot_len symTot al) hat
            have HLs : Hid ((listW symW al).length ≤ 500000000) := by have h1 := altW_le al; rw [altW] at h1; rw [Hid]; omega
            have HSt : Hid (∀ s ∈ al, symTot s ≤ 1048576) := fun s hs => Nat.le_trans (rowTot_mem symTot hs) hat
            have hv3 := varB_len al.length
            obtain ⟨M1, hM1, hm1, a5⟩ := sum16 p2 (varB al.length) (by omega)
            clear hm1 hv3 hat
            have BWq : Hid (Below w.heap.size w wr) := BW6.out.trans (BQ.out.mono BW6.out.size)
            go_wp2_with (go_at_call 30; refine (l01Var_any al.length _ (by omega)).mono ?_; rintro e w7 ⟨rfl, hb7⟩)
            have BQ7 : Hid (Below w6.heap.size w6 w7) := BQ.out.trans (hb7.mono BQ.out.size)
            have BW7 : Hid (Below w.heap.size w w7) := BWq.out.trans (hb7.mono BWq.out.size)
            have HS7 : Hid (RowC 4 SymE w7 (.slice sa al.length sc) al) := RowC.below SymE_stable HSr.out hb7
            have u2 := cell_keep t2 hb7
            have hcb := cell_keep hca hb7
            clear hb7 BQ BWq HSr t2 hca
            go_wp2
            go_loopw [4, 9] (fun sv iv wr => ∃ m : Nat, sv = .string (str (p2 ++ (varB al.length ++ ((al.take m).map symW).flatten))) ∧ iv = .int .i64 m ∧ m ≤ al.length ∧ Below w7.heap.size w7 wr) (fun _ iv _ => al.length - (intOf iv).toNat)
            case atStart => exact ⟨0, by rw [start16, hM1.out], rfl, Nat.zero_le _, Below.refl _ _⟩
            case round =>
              obtain ⟨m, rfl, rfl, hml, hbm⟩ := hrel
              have BM : Hid (Below w7.heap.size w7 wr) := hbm
              have v2 := cell_keep u2 hbm
              have hcc := cell_keep hcb hbm
              clear hbm
              by_cases hmt : m < al.length
              rotate_left
              · obtain rfl : m = al.length := by omega
                have HEx : Hid (str (p2 ++ (varB al.length ++ ((al.take al.length).map symW).flatten)) = str (L3 ++ (varB r.alts.length ++ ((r.alts.take (q + 1)).map altW).flatten))) := by rw [Hid, end16, HNq.out]; rfl
                have BF : Hid (Below w6.heap.size w6 wr) := BQ7.out.trans (BM.out.mono BQ7.out.size)
                rw [HEx.out]
                go_wp2
                go_roundw
                case rel => exact ⟨q + 1, rfl, by go_num, by omega, BF.out⟩
                case measure => simp [intOf]; omega
              obtain ⟨gs, os, fa, fc, rfl, k0, k1, k2, k3, hX⟩ := gsym_at (RowC.below SymE_stable HS7.out BM.out) hmt
              have j8 : (m : Int) < (al.length : Int) := by omega
              have HSK : Hid (SymK al[m]) := HAK.out _ (List.getElem_mem hmt)
              have HSI : Hid (∀ e ∈ al[m].args, NIn e) := symIn_args (HSt.out _ (List.getElem_mem hmt)) (HAI.out.2 _ (List.getElem_mem hmt))
              have hst : symTot al[m] ≤ 1048576 := HSt.out _ (List.getElem_mem hmt)
              have HNm : Hid (p2 ++ (varB al.length ++ ((al.take (m + 1)).map symW).flatten) = (p2 ++ (varB al.length ++ ((al.take m).map symW).flatten)) ++ symW al[m]) := step16 symW al m hmt p2
              have hpm : (p2 ++ (varB al.length ++ ((al.take m).map symW).flatten)).length ≤ 2400000000 := by
                have h1 := len16 symW al m p2
                have h2 := HLs.out
                omega
              have HXr : Hid (RowC 1 ExprE wr (.slice fa al[m].args.length fc) al[m].args) := hX
              clear hX
              generalize al[m] = s at *
              generalize p2 ++ (varB al.length ++ ((al.take m).map symW).flatten) = p3 at *
              have hst' : s.text.size + rowTot exprTot s.args + s.bind.size ≤ 1048576 := hst
              have htx : s.text.size ≤ 1048576 := by omega
              have hbd : s.bind.size ≤ 1048576 := by omega
              have hag : s.args.length ≤ 1048576 := Nat.le_trans (rowTot_len exprTot s.args) (by omega)
              have HLg : Hid ((listW argW s.args).length ≤ 500000000) := by
                have := listW_le (f := argW) (t := exprTot) (c := 400) (d := 363) (by omega) (xs := s.args) fun x _ => by have := argW_le x; omega
                rw [Hid]; omega
              have hkd : 0 ≤ s.kind ∧ s.kind ≤ 127 := by have := HSK.out.1; omega
              have hw8 : IntKind.u8.wrap s.kind = s.kind := by rw [IntKind.wrap_u8]; omega
              have hv4 := shortW_le s.text
              have hv5 := shortW_le s.bind
              have hv6 := varB_len s.args.length
              clear hst hst'
              obtain ⟨N1, hN1, hn1, c1⟩ := sum16 p3 [byteW s.kind] (by simp; omega)
              rw [List.length_singleton] at hn1
              obtain ⟨N2, hN2, hn2, c2⟩ := sum16 N1 (shortW s.text) (by omega)
              obtain ⟨N3, hN3, hn3, c3⟩ := sum16 N2 (shortW s.bind) (by omega)
              obtain ⟨N4, hN4, hn4, c4⟩ := sum16 N3 (varB s.args.length) (by omega)
              have HN3l : Hid (N3.length ≤ 2600000000) := by rw [Hid]; omega
              have HSf : Hid (p3 ++ symW s = N3 ++ listW argW s.args) := by
                rw [Hid, symW, hN3.out, hN2.out, hN1.out]
                simp
              have BWm : Hid (Below w.heap.size w wr) := BW7.out.trans (BM.out.mono BW7.out.size)
              clear hn1 hn2 hn3 hn4 hv4 hv5 hv6
              have HB : Hid (Below wr.heap.size wr (wr.alloc (.cells #[.int .i64 s.kind, .string s.text, .slice fa s.args.length fc, .string s.bind] 46))) := (Below.refl _ _).alloc (Nat.le_refl _) _
              have by_ := heap_alloc_new wr (.cells #[.int .i64 s.kind, .string s.text, .slice fa s.args.length fc, .string s.bind] 46)
              have y0 : (wr.alloc (.cells #[.int .i64 s.kind, .string s.text, .slice fa s.args.length fc, .string s.bind] 46)).cell? ⟨wr.heap.size, 0, none⟩ = some (.int .i64 s.kind) := by rw [cell_of_row _ _ 0 _ _ _ by_]; rfl
              have y1 : (wr.alloc (.cells #[.int .i64 s.kind, .string s.text, .slice fa s.args.length fc, .string s.bind] 46)).cell? ⟨wr.heap.size, 1, none⟩ = some (.string s.text) := by rw [cell_of_row _ _ 1 _ _ _ by_]; rfl
              have y2 : (wr.alloc (.cells #[.int .i64 s.kind, .string s.text, .slice fa s.args.length fc, .string s.bind] 46)).cell? ⟨wr.heap.size, 2, none⟩ = some (.slice fa s.args.length fc) := by rw [cell_of_row _ _ 2 _ _ _ by_]; rfl
              have y3 : (wr.alloc (.cells #[.int .i64 s.kind, .string s.text, .slice fa s.args.length fc, .string s.bind] 46)).cell? ⟨wr.heap.size, 3, none⟩ = some (.string s.bind) := by rw [cell_of_row _ _ 3 _ _ _ by_]; rfl
              clear by_
              go_wp2_with fail
              generalize wr.alloc (.cells #[.int .i64 s.kind, .string s.text, .slice fa s.args.length fc, .string s.bind] 46) = wb at *
              go_cut [4] from 103 to 122 (fun sv wx => sv = .string (str N4) ∧ Below wb.heap.size wb wx)
              case first =>
                refine wp_region_held_drew (S := fun W => W.cell? ⟨wr.heap.size, 0, none⟩ = some (.int .i64 s.kind) ∧ W.cell? ⟨wr.heap.size, 1, none⟩ = some (.string s.text) ∧ W.cell? ⟨wr.heap.size, 2, none⟩ = some (.slice fa s.args.length fc) ∧ W.cell? ⟨wr.heap.size, 3, none⟩ = some (.string s.bind)) (by kernel_rfl) ?_ (fun hHeld => ?_)
                · (try dsimp only)
                  go_keep
                refine wpAnyH_takeD (i := 0) (v := ?_) (d := some 103) rfl rfl (by kernel_rfl) (by kernel_rfl) (by kernel_rfl) (fun _ _ _ h => h) (Or.inl ⟨by rfl, ?_⟩) hHeld ?_
                rotate_left
                · intro w hSw
                  (try dsimp only at hSw)
                  go_simp
                  (try with_reducible rfl)
                refine wpAnyH_takeD (i := 1) (v := ?_) (d := some 104) rfl rfl (by kernel_rfl) (by kernel_rfl) (by kernel_rfl) (fun _ _ _ h => h) (Or.inl ⟨by rfl, ?_⟩) hHeld ?_
                rotate_left
                · intro w hSw
                  (try dsimp only at hSw)
                  go_simp
                  (try with_reducible rfl)
                refine wpAnyH_takeD (i := 2) (v := ?_) (d := some 105) rfl rfl (by kernel_rfl) (by kernel_rfl) (by kernel_rfl) (fun _ _ _ h => h) (Or.inl ⟨by rfl, ?_⟩) hHeld ?_
                rotate_left
                · intro w hSw
                  (try dsimp only at hSw)
                  go_simp
                  (try with_reducible rfl)
                refine wpAnyH_takeD (i := 3) (v := ?_) (d := some 106) rfl rfl (by kernel_rfl) (by kernel_rfl) (by kernel_rfl) (fun _ _ _ h => h) (Or.inl ⟨by rfl, ?_⟩) hHeld ?_
                rotate_left
                · intro w hSw
                  (try dsimp only at hSw)
                  go_simp
                  (try with_reducible rfl)
                refine wpAnyH_takeD (i := 7) (v := ?_) (d := some 110) rfl rfl (by kernel_rfl) (by kernel_rfl) (by kernel_rfl) (fun _ _ _ h => h) (Or.inl ⟨by rfl, ?_⟩) hHeld ?_
                rotate_left
                · intro w hSw
                  (try dsimp only at hSw)
                  go_simp
                  (try with_reducible rfl)
                refine wpAnyH_takeD (i := 8) (v := ?_) (d := some 111) rfl rfl (by kernel_rfl) (by kernel_rfl) (by kernel_rfl) (fun _ _ _ h => h) (Or.inl ⟨by rfl, ?_⟩) hHeld ?_
                rotate_left
                · intro w hSw
                  (try dsimp only at hSw)
                  go_simp
                  (try with_reducible rfl)
                refine wpAnyH_takeD (i := 11) (v := ?_) (d := some 114) rfl rfl (by kernel_rfl) (by kernel_rfl) (by kernel_rfl) (fun _ _ _ h => h) (Or.inl ⟨by rfl, ?_⟩) hHeld ?_
                rotate_left
                · intro w hSw
                  (try dsimp only at hSw)
                  go_simp
                  (try with_reducible rfl)
                refine wpAnyH_takeD (i := 12) (v := ?_) (d := some 115) rfl rfl (by kernel_rfl) (by kernel_rfl) (by kernel_rfl) (fun _ _ _ h => h) (Or.inl ⟨by rfl, ?_⟩) hHeld ?_
                rotate_left
                · intro w hSw
                  (try dsimp only at hSw)
                  go_simp
                  (try with_reducible rfl)
                refine wpAnyH_takeD (i := 15) (v := ?_) (d := some 118) rfl rfl (by kernel_rfl) (by kernel_rfl) (by kernel_rfl) (fun _ _ _ h => h) (Or.inl ⟨by rfl, ?_⟩) hHeld ?_
                rotate_left
                · intro w hSw
                  (try dsimp only at hSw)
                  go_simp
                  (try with_reducible rfl)
                refine wpAnyH_takeD (i := 16) (v := ?_) (d := some 119) rfl rfl (by kernel_rfl) (by kernel_rfl) (by kernel_rfl) (fun _ _ _ h => h) (Or.inl ⟨by rfl, ?_⟩) hHeld ?_
                rotate_left
                · intro w hSw
                  (try dsimp only at hSw)
                  go_simp
                  (try with_reducible rfl)
                refine wpAnyH_takeD (i := 17) (v := ?_) (d := some 120) rfl rfl (by kernel_rfl) (by kernel_rfl) (by kernel_rfl) (fun _ _ _ h => h) (Or.inl ⟨by rfl, ?_⟩) hHeld ?_
                rotate_left
                · intro w hSw
                  (try dsimp only at hSw)
                  go_simp
                  (try with_reducible rfl)
                refine wpAnyH_ready (rs := [4, 9]) (by kernel_rfl) (by simp) ?_
                refine AllReadyH.cons rfl (fun K hK => ?_) (AllReadyH.cons rfl (fun K hK => ?_) (AllReadyH.nil))
                · go_simp
                  refine hK.out _ _ ?_ (fun hHeld => ?_)
                  · (try dsimp only)
                    go_keep
                  clear hK K
                  refine wpAnyH_weaken (S' := fun W => (W.cell? ⟨wr.heap.size, 0, none⟩ = some (.int .i64 s.kind) ∧ W.cell? ⟨wr.heap.size, 1, none⟩ = some (.string s.text) ∧ W.cell? ⟨wr.heap.size, 2, none⟩ = some (.slice fa s.args.length fc) ∧ W.cell? ⟨wr.heap.size, 3, none⟩ = some (.string s.bind)) ∧ W.cell? ⟨wb.heap.size, 0, none⟩ = some (.int .u8 s.kind)) (fun W h => h.1) ?_
                  have hHeld := And.intro hHeld (cell_new16 wb (.int .u8 s.kind) 5)
                  refine wpAnyH_takeD (i := 5) (v := ?_) (d := some 108) rfl rfl (by kernel_rfl) (by kernel_rfl) (by kernel_rfl) (fun _ _ _ h => h) (Or.inl ⟨by rfl, ?_⟩) hHeld ?_
                  rotate_left
                  · intro w hSw
                    (try dsimp only at hSw)
                    have hq := conv16 w _ _ hkd hSw.2
                    go_simp
                    (try with_reducible rfl)
                  refine wpAnyH_takeD (i := 6) (v := ?_) (d := some 109) rfl rfl (by kernel_rfl) (by kernel_rfl) (by kernel_rfl) (fun _ _ _ h => h) (Or.inl ⟨by rfl, ?_⟩) hHeld ?_
                  rotate_left
                  · intro w hSw
                    (try dsimp only at hSw)
                    go_simp
                    (try with_reducible rfl)
                  refine wpAnyH_ready (rs := [9]) (by kernel_rfl) (by simp) ?_
                  refine AllReadyH.cons rfl (fun K hK => ?_) (AllReadyH.nil)
                  go_simp
                  refine Calls.mono (l16Short_any s.text _ (by omega)) ?_
                  rintro e wv ⟨rfl, hbv⟩
                  (try dsimp only)
                  refine hK.out _ _ ?_ (fun hHeld => ?_)
                  · (try dsimp only)
                    exact ⟨hkeep4 hHeld.1 hbv, by first | exact cell_keep hHeld.2 hbv | exact cell_keepD hHeld.2 hbv⟩
                  clear hK K
                  refine wpAnyH_takeD (i := 10) (v := ?_) (d := some 113) rfl rfl (by kernel_rfl) (by kernel_rfl) (by kernel_rfl) (fun _ _ _ h => h) (Or.inl ⟨by rfl, ?_⟩) hHeld ?_
                  rotate_left
                  · intro w hSw
                    (try dsimp only at hSw)
                    go_simp
                    (try with_reducible rfl)
                  refine wpAnyH_ready (rs := [13]) (by kernel_rfl) (by simp) ?_
                  refine AllReadyH.cons rfl (fun K hK => ?_) (AllReadyH.nil)
                  go_simp
                  refine Calls.mono (l16Short_any s.bind _ (by omega)) ?_
                  rintro e ws ⟨rfl, hbs⟩
                  (try dsimp only)
                  refine hK.out _ _ ?_ (fun hHeld => ?_)
                  · (try dsimp only)
                    exact ⟨hkeep4 hHeld.1 hbs, by first | exact cell_keep hHeld.2 hbs | exact cell_keepD hHeld.2 hbs⟩
                  clear hK K
                  refine wpAnyH_takeD (i := 14) (v := ?_) (d := some 117) rfl rfl (by kernel_rfl) (by kernel_rfl) (by kernel_rfl) (fun _ _ _ h => h) (Or.inl ⟨by rfl, ?_⟩) hHeld ?_
                  rotate_left
                  · intro w hSw
                    (try dsimp only at hSw)
                    go_simp
                    (try with_reducible rfl)
                  refine wpAnyH_ready (rs := [18]) (by kernel_rfl) (by simp) ?_
                  refine AllReadyH.cons rfl (fun K hK => ?_) (AllReadyH.nil)
                  go_simp
                  refine Calls.mono (l01Var_any s.args.length _ (by omega)) ?_
                  rintro e wt ⟨rfl, hbt⟩
                  (try dsimp only)
                  refine hK.out _ _ ?_ (fun hHeld => ?_)
                  · (try dsimp only)
                    exact ⟨hkeep4 hHeld.1 hbt, by first | exact cell_keep hHeld.2 hbt | exact cell_keepD hHeld.2 hbt⟩
                  clear hK K
                  refine wpAnyH_takeD (i := 19) (v := ?_) (d := some 122) rfl rfl (by kernel_rfl) (by kernel_rfl) (by kernel_rfl) (fun _ _ _ h => h) (Or.inl ⟨by rfl, ?_⟩) hHeld ?_
                  rotate_left
                  · intro w hSw
                    (try dsimp only at hSw)
                    go_simp
                    (try with_reducible rfl)
                  refine wpAnyH_takeD (i := 20) (v := ?_) (d := some 4) rfl rfl (by kernel_rfl) (by kernel_rfl) (by kernel_rfl) (fun _ _ _ h => h) (Or.inl ⟨by rfl, ?_⟩) hHeld ?_
                  rotate_left
                  · intro w hSw
                    (try dsimp only at hSw)
                    go_simp
                    (try with_reducible rfl)
                  refine wpAnyH_done (by kernel_rfl) ?_ _
                  (try go_wp2_with fail)
                  go_meet
                  exact ⟨rfl, (bl_call (bl_call (bl_callD (bl_alloc (Below.refl wb.heap.size wb) (.cells #[.int .u8 s.kind] 5)) hbv) hbs) hbt)⟩
                · go_simp
                  refine Calls.mono (l16Short_any s.text _ (by omega)) ?_
                  rintro e wv ⟨rfl, hbv⟩
                  (try dsimp only)
                  refine hK.out _ _ ?_ (fun hHeld => ?_)
                  · (try dsimp only)
                    exact hkeep4 hHeld hbv
                  clear hK K
                  refine wpAnyH_ready (rs := [4, 13]) (by kernel_rfl) (by simp) ?_
                  refine AllReadyH.cons rfl (fun K hK => ?_) (AllReadyH.cons rfl (fun K hK => ?_) (AllReadyH.nil))
                  · go_simp
                    refine hK.out _ _ ?_ (fun hHeld => ?_)
                    · (try dsimp only)
                      go_keep
                    clear hK K
                    refine wpAnyH_weaken (S' := fun W => (W.cell? ⟨wr.heap.size, 0, none⟩ = some (.int .i64 s.kind) ∧ W.cell? ⟨wr.heap.size, 1, none⟩ = some (.string s.text) ∧ W.cell? ⟨wr.heap.size, 2, none⟩ = some (.slice fa s.args.length fc) ∧ W.cell? ⟨wr.heap.size, 3, none⟩ = some (.string s.bind)) ∧ W.cell? ⟨wv.heap.size, 0, none⟩ = some (.int .u8 s.kind)) (fun W h => h.1) ?_
                    have hHeld := And.intro hHeld (cell_new16 wv (.int .u8 s.kind) 5)
                    refine wpAnyH_takeD (i := 5) (v := ?_) (d := some 108) rfl rfl (by kernel_rfl) (by kernel_rfl) (by kernel_rfl) (fun _ _ _ h => h) (Or.inl ⟨by rfl, ?_⟩) hHeld ?_
                    rotate_left
                    · intro w hSw
                      (try dsimp only at hSw)
                      have hq := conv16 w _ _ hkd hSw.2
                      go_simp
                      (try with_reducible rfl)
                    refine wpAnyH_takeD (i := 6) (v := ?_) (d := some 109) rfl rfl (by kernel_rfl) (by kernel_rfl) (by kernel_rfl) (fun _ _ _ h => h) (Or.inl ⟨by rfl, ?_⟩) hHeld ?_
                    rotate_left
                    · intro w hSw
                      (try dsimp only at hSw)
                      go_simp
                      (try with_reducible rfl)
                    refine wpAnyH_takeD (i := 10) (v := ?_) (d := some 113) rfl rfl (by kernel_rfl) (by kernel_rfl) (by kernel_rfl) (fun _ _ _ h => h) (Or.inl ⟨by rfl, ?_⟩) hHeld ?_
                    rotate_left
                    · intro w hSw
                      (try dsimp only at hSw)
                      go_simp
                      (try with_reducible rfl)
                    refine wpAnyH_ready (rs := [13]) (by kernel_rfl) (by simp) ?_
                    refine AllReadyH.cons rfl (fun K hK => ?_) (AllReadyH.nil)
                    go_simp
                    refine Calls.mono (l16Short_any s.bind _ (by omega)) ?_
                    rintro e ws ⟨rfl, hbs⟩
                    (try dsimp only)
                    refine hK.out _ _ ?_ (fun hHeld => ?_)
                    · (try dsimp only)
                      exact ⟨hkeep4 hHeld.1 hbs, by first | exact cell_keep hHeld.2 hbs | exact cell_keepD hHeld.2 hbs⟩
                    clear hK K
                    refine wpAnyH_takeD (i := 14) (v := ?_) (d := some 117) rfl rfl (by kernel_rfl) (by kernel_rfl) (by kernel_rfl) (fun _ _ _ h => h) (Or.inl ⟨by rfl, ?_⟩) hHeld ?_
                    rotate_left
                    · intro w hSw
                      (try dsimp only at hSw)
                      go_simp
                      (try with_reducible rfl)
                    refine wpAnyH_ready (rs := [18]) (by kernel_rfl) (by simp) ?_
                    refine AllReadyH.cons rfl (fun K hK => ?_) (AllReadyH.nil)
                    go_simp
                    refine Calls.mono (l01Var_any s.args.length _ (by omega)) ?_
                    rintro e wt ⟨rfl, hbt⟩
                    (try dsimp only)
                    refine hK.out _ _ ?_ (fun hHeld => ?_)
                    · (try dsimp only)
                      exact ⟨hkeep4 hHeld.1 hbt, by first | exact cell_keep hHeld.2 hbt | exact cell_keepD hHeld.2 hbt⟩
                    clear hK K
                    refine wpAnyH_takeD (i := 19) (v := ?_) (d := some 122) rfl rfl (by kernel_rfl) (by kernel_rfl) (by kernel_rfl) (fun _ _ _ h => h) (Or.inl ⟨by rfl, ?_⟩) hHeld ?_
                    rotate_left
                    · intro w hSw
                      (try dsimp only at hSw)
                      go_simp
                      (try with_reducible rfl)
                    refine wpAnyH_takeD (i := 20) (v := ?_) (d := some 4) rfl rfl (by kernel_rfl) (by kernel_rfl) (by kernel_rfl) (fun _ _ _ h => h) (Or.inl ⟨by rfl, ?_⟩) hHeld ?_
                    rotate_left
                    · intro w hSw
                      (try dsimp only at hSw)
                      go_simp
                      (try with_reducible rfl)
                    refine wpAnyH_done (by kernel_rfl) ?_ _
                    (try go_wp2_with fail)
                    go_meet
                    exact ⟨rfl, (bl_call (bl_call (bl_alloc (bl_callD (Below.refl wb.heap.size wb) hbv) (.cells #[.int .u8 s.kind] 5)) hbs) hbt)⟩
                  · go_simp
                    refine Calls.mono (l16Short_any s.bind _ (by omega)) ?_
                    rintro e ws ⟨rfl, hbs⟩
                    (try dsimp only)
                    refine hK.out _ _ ?_ (fun hHeld => ?_)
                    · (try dsimp only)
                      exact hkeep4 hHeld hbs
                    clear hK K
                    refine wpAnyH_ready (rs := [4, 18]) (by kernel_rfl) (by simp) ?_
                    refine AllReadyH.cons rfl (fun K hK => ?_) (AllReadyH.cons rfl (fun K hK => ?_) (AllReadyH.nil))
                    · go_simp
                      refine hK.out _ _ ?_ (fun hHeld => ?_)
                      · (try dsimp only)
                        go_keep
                      clear hK K
                      refine wpAnyH_weaken (S' := fun W => (W.cell? ⟨wr.heap.size, 0, none⟩ = some (.int .i64 s.kind) ∧ W.cell? ⟨wr.heap.size, 1, none⟩ = some (.string s.text) ∧ W.cell? ⟨wr.heap.size, 2, none⟩ = some (.slice fa s.args.length fc) ∧ W.cell? ⟨wr.heap.size, 3, none⟩ = some (.string s.bind)) ∧ W.cell? ⟨ws.heap.size, 0, none⟩ = some (.int .u8 s.kind)) (fun W h => h.1) ?_
                      have hHeld := And.intro hHeld (cell_new16 ws (.int .u8 s.kind) 5)
                      refine wpAnyH_takeD (i := 5) (v := ?_) (d := some 108) rfl rfl (by kernel_rfl) (by kernel_rfl) (by kernel_rfl) (fun _ _ _ h => h) (Or.inl ⟨by rfl, ?_⟩) hHeld ?_
                      rotate_left
                      · intro w hSw
                        (try dsimp only at hSw)
                        have hq := conv16 w _ _ hkd hSw.2
                        go_simp
                        (try with_reducible rfl)
                      refine wpAnyH_takeD (i := 6) (v := ?_) (d := some 109) rfl rfl (by kernel_rfl) (by kernel_rfl) (by kernel_rfl) (fun _ _ _ h => h) (Or.inl ⟨by rfl, ?_⟩) hHeld ?_
                      rotate_left
                      · intro w hSw
                        (try dsimp only at hSw)
                        go_simp
                        (try with_reducible rfl)
                      refine wpAnyH_takeD (i := 10) (v := ?_) (d := some 113) rfl rfl (by kernel_rfl) (by kernel_rfl) (by kernel_rfl) (fun _ _ _ h => h) (Or.inl ⟨by rfl, ?_⟩) hHeld ?_
                      rotate_left
                      · intro w hSw
                        (try dsimp only at hSw)
                        go_simp
                        (try with_reducible rfl)
                      refine wpAnyH_takeD (i := 14) (v := ?_) (d := some 117) rfl rfl (by kernel_rfl) (by kernel_rfl) (by kernel_rfl) (fun _ _ _ h => h) (Or.inl ⟨by rfl, ?_⟩) hHeld ?_
                      rotate_left
                      · intro w hSw
                        (try dsimp only at hSw)
                        go_simp
                        (try with_reducible rfl)
                      refine wpAnyH_ready (rs := [18]) (by kernel_rfl) (by simp) ?_
                      refine AllReadyH.cons rfl (fun K hK => ?_) (AllReadyH.nil)
                      go_simp
                      refine Calls.mono (l01Var_any s.args.length _ (by omega)) ?_
                      rintro e wt ⟨rfl, hbt⟩
                      (try dsimp only)
                      refine hK.out _ _ ?_ (fun hHeld => ?_)
                      · (try dsimp only)
                        exact ⟨hkeep4 hHeld.1 hbt, by first | exact cell_keep hHeld.2 hbt | exact cell_keepD hHeld.2 hbt⟩
                      clear hK K
                      refine wpAnyH_takeD (i := 19) (v := ?_) (d := some 122) rfl rfl (by kernel_rfl) (by kernel_rfl) (by kernel_rfl) (fun _ _ _ h => h) (Or.inl ⟨by rfl, ?_⟩) hHeld ?_
                      rotate_left
                      · intro w hSw
                        (try dsimp only at hSw)
                        go_simp
                        (try with_reducible rfl)
                      refine wpAnyH_takeD (i := 20) (v := ?_) (d := some 4) rfl rfl (by kernel_rfl) (by kernel_rfl) (by kernel_rfl) (fun _ _ _ h => h) (Or.inl ⟨by rfl, ?_⟩) hHeld ?_
                      rotate_left
                      · intro w hSw
                        (try dsimp only at hSw)
                        go_simp
                        (try with_reducible rfl)
                      refine wpAnyH_done (by kernel_rfl) ?_ _
                      (try go_wp2_with fail)
                      go_meet
                      exact ⟨rfl, (bl_call (bl_alloc (bl_call (bl_callD (Below.refl wb.heap.size wb) hbv) hbs) (.cells #[.int .u8 s.kind] 5)) hbt)⟩
                    · go_simp
                      refine Calls.mono (l01Var_any s.args.length _ (by omega)) ?_
                      rintro e wt ⟨rfl, hbt⟩
                      (try dsimp only)
                      refine hK.out _ _ ?_ (fun hHeld => ?_)
                      · (try dsimp only)
                        exact hkeep4 hHeld hbt
                      clear hK K
                      refine wpAnyH_ready (rs := [4]) (by kernel_rfl) (by simp) ?_
                      refine AllReadyH.cons rfl (fun K hK => ?_) (AllReadyH.nil)
                      go_simp
                      refine hK.out _ _ ?_ (fun hHeld => ?_)
                      · (try dsimp only)
                        go_keep
                      clear hK K
                      refine wpAnyH_weaken (S' := fun W => (W.cell? ⟨wr.heap.size, 0, none⟩ = some (.int .i64 s.kind) ∧ W.cell? ⟨wr.heap.size, 1, none⟩ = some (.string s.text) ∧ W.cell? ⟨wr.heap.size, 2, none⟩ = some (.slice fa s.args.length fc) ∧ W.cell? ⟨wr.heap.size, 3, none⟩ = some (.string s.bind)) ∧ W.cell? ⟨wt.heap.size, 0, none⟩ = some (.int .u8 s.kind)) (fun W h => h.1) ?_
                      have hHeld := And.intro hHeld (cell_new16 wt (.int .u8 s.kind) 5)
                      refine wpAnyH_takeD (i := 5) (v := ?_) (d := some 108) rfl rfl (by kernel_rfl) (by kernel_rfl) (by kernel_rfl) (fun _ _ _ h => h) (Or.inl ⟨by rfl, ?_⟩) hHeld ?_
                      rotate_left
                      · intro w hSw
                        (try dsimp only at hSw)
                        have hq := conv16 w _ _ hkd hSw.2
                        go_simp
                        (try with_reducible rfl)
                      refine wpAnyH_takeD (i := 6) (v := ?_) (d := some 109) rfl rfl (by kernel_rfl) (by kernel_rfl) (by kernel_rfl) (fun _ _ _ h => h) (Or.inl ⟨by rfl, ?_⟩) hHeld ?_
                      rotate_left
                      · intro w hSw
                        (try dsimp only at hSw)
                        go_simp
                        (try with_reducible rfl)
                      refine wpAnyH_takeD (i := 10) (v := ?_) (d := some 113) rfl rfl (by kernel_rfl) (by kernel_rfl) (by kernel_rfl) (fun _ _ _ h => h) (Or.inl ⟨by rfl, ?_⟩) hHeld ?_
                      rotate_left
                      · intro w hSw
                        (try dsimp only at hSw)
                        go_simp
                        (try with_reducible rfl)
                      refine wpAnyH_takeD (i := 14) (v := ?_) (d := some 117) rfl rfl (by kernel_rfl) (by kernel_rfl) (by kernel_rfl) (fun _ _ _ h => h) (Or.inl ⟨by rfl, ?_⟩) hHeld ?_
                      rotate_left
                      · intro w hSw
                        (try dsimp only at hSw)
                        go_simp
                        (try with_reducible rfl)
                      refine wpAnyH_takeD (i := 19) (v := ?_) (d := some 122) rfl rfl (by kernel_rfl) (by kernel_rfl) (by kernel_rfl) (fun _ _ _ h => h) (Or.inl ⟨by rfl, ?_⟩) hHeld ?_
                      rotate_left
                      · intro w hSw
                        (try dsimp only at hSw)
                        go_simp
                        (try with_reducible rfl)
                      refine wpAnyH_takeD (i := 20) (v := ?_) (d := some 4) rfl rfl (by kernel_rfl) (by kernel_rfl) (by kernel_rfl) (fun _ _ _ h => h) (Or.inl ⟨by rfl, ?_⟩) hHeld ?_
                      rotate_left
                      · intro w hSw
                        (try dsimp only at hSw)
                        go_simp
                        (try with_reducible rfl)
                      refine wpAnyH_done (by kernel_rfl) ?_ _
                      (try go_wp2_with fail)
                      go_meet
                      exact ⟨rfl, (bl_alloc (bl_call (bl_call (bl_callD (Below.refl wb.heap.size wb) hbv) hbs) hbt) (.cells #[.int .u8 s.kind] 5))⟩
              case rest =>
                obtain ⟨rfl, hbw⟩ := hcut
                have HBw : Hid (Below wr.heap.size wr wc) := HB.out.trans (hbw.mono HB.out.size)
                have z2 := cell_keep y2 hbw
                have hcd := cell_keep hcc HBw.out
                have v3 := cell_keep v2 HBw.out
                have BMc : Hid (Below w7.heap.size w7 wc) := BM.out.trans (HBw.out.mono BM.out.size)
                have HXc : Hid (RowC 1 ExprE wc (.slice fa s.args.length fc) s.args) := RowC.below ExprE_stable HXr.out HBw.out
                clear hbw y0 y1 y2 y3 c1 c2 c3 c4 HB HBw k0 k1 k2 k3 BM HXr hcc v2 hw8 hkd
                generalize wr.heap.size = by_ at *
                go_wp2
                go_loopw [4, 11] (fun sv iv wr => ∃ n : Nat, sv = .string (str (N3 ++ (varB s.args.length ++ ((s.args.take n).map argW).flatten))) ∧ iv = .int .i64 n ∧ n ≤ s.args.length ∧ Below wc.heap.size wc wr) (fun _ iv _ => s.args.length - (intOf iv).toNat)
                case atStart => exact ⟨0, by rw [start16, hN4.out], rfl, Nat.zero_le _, Below.refl _ _⟩
                case round =>
                  obtain ⟨n, rfl, rfl, hnl, hbn⟩ := hrel
                  have BN : Hid (Below wc.heap.size wc wr) := hbn
                  have z3 := cell_keep z2 hbn
                  have hce := cell_keep hcd hbn
                  have v4 := cell_keep v3 hbn
                  clear hbn
                  by_cases hnt : n < s.args.length
                  rotate_left
                  · obtain rfl : n = s.args.length := by omega
                    have HEx : Hid (str (N3 ++ (varB s.args.length ++ ((s.args.take s.args.length).map argW).flatten)) = str (p2 ++ (varB al.length ++ ((al.take (m + 1)).map symW).flatten))) := by rw [Hid, end16, HNm.out, HSf.out]
                    have BF : Hid (Below w7.heap.size w7 wr) := BMc.out.trans (BN.out.mono BMc.out.size)
                    rw [HEx.out]
                    go_wp2
                    go_roundw
                    case rel => exact ⟨m + 1, rfl, by go_num, by omega, BF.out⟩
                    case measure => simp [intOf]; omega
                  obtain ⟨ge, oe, ae, ce, rfl, hcn, hNe⟩ := gexpr_at (RowC.below ExprE_stable HXc.out BN.out) hnt
                  have j9 : (n : Int) < (s.args.length : Int) := by omega
                  have HNIe : Hid (NIn s.args[n]) := HSI.out _ (List.getElem_mem hnt)
                  have HNn : Hid (N3 ++ (varB s.args.length ++ ((s.args.take (n + 1)).map argW).flatten) = (N3 ++ (varB s.args.length ++ ((s.args.take n).map argW).flatten)) ++ argW s.args[n]) := step16 argW s.args n hnt N3
                  have hpn2 : (N3 ++ (varB s.args.length ++ ((s.args.take n).map argW).flatten)).length ≤ 3200000000 := by
                    have h1 := len16 argW s.args n N3
                    have h2 := HLg.out
                    have h3 := HN3l.out
                    omega
                  have HNr : Hid (NRow wr (.slice ae s.args[n].length ce) s.args[n]) := hNe
                  clear hNe
                  generalize s.args[n] = ex at *
                  generalize N3 ++ (varB s.args.length ++ ((s.args.take n).map argW).flatten) = p4 at *
                  have hal := argW_le ex
                  have het := exprT_le ex
                  have hes : (str (exprT ex)).size ≤ 1048576 := by rw [str_size]; omega
                  have had := fun W => run_add_str (P := Tryz.prog) W p4 (argW ex) (by omega)
                  clear hal het
                  go_wp2_with fail
                  refine (specExprText_any _ ex _ HNIe.out HNr.out).mono ?_
                  rintro e w8 ⟨rfl, hb8⟩
                  have BN8 : Hid (Below wc.heap.size wc w8) := BN.out.trans (hb8.mono BN.out.size)
                  clear hb8
                  generalize exprB ex = bb at *
                  have HSh : Hid (∀ W, Calls Tryz.prog 31 #[.string (str (exprT ex))] W fun e w' => e = .returned (.string (str (argW ex))) ∧ Below W.heap.size W w') := fun W => l16Short_any (str (exprT ex)) W hes
                  generalize str (exprT ex) = et at *
                  generalize argW ex = aw at *
                  go_wp2_with fail
                  refine (HSh.out _).mono ?_
                  rintro e w9 ⟨rfl, hb9⟩
                  have BN9 : Hid (Below wc.heap.size wc w9) := BN8.out.trans (hb9.mono BN8.out.size)
                  clear hb9
                  go_wp2
                  go_roundw
                  case rel => exact ⟨n + 1, by rw [HNn.out], by go_num, by omega, BN9.out⟩
                  case measure => simp [intOf]; omega

end Go.Proofs.YtokidlklkgghkaaGreatDoor

