/- The program's Trimmed (printed by mk/f15ti.py). -/
import Derived.Test.YtkmkfpgaehgonaaGreatDoorF15TR
namespace Go.Proofs.YtkmkfpgaehgonaaGreatDoor
open Go.RowKit
set_option linter.unusedVariables false

set_option maxHeartbeats 6400000 in
set_option maxRecDepth 100000 in
theorem implTrimmed_any (v : Value) (xs : List RuleD) (w : World) (hErr : errTy w) (hg : grammarTot xs ≤ 1048576) (hv : RowC 3 RuleE w v xs) :
    Calls Tryz.prog 7 #[.agg #[v]] w fun e w' => ∃ o, e = .returned (.agg #[o]) ∧ RowF 3 42 RuleF (Nw w.heap.size w'.heap.size) o (trimB xs) w' ∧ Below w.heap.size w w' := by
  obtain ⟨i0, hi, hz0, hz1, hz2⟩ := info_parts Tryz.infoRule
  have hgl : xs.length ≤ 1048576 := Nat.le_trans (rowTot_len ruleTot xs) hg
  have HTz : Hid (∀ i (h : i < xs.length), ruleTot xs[i] ≤ 1048576) := fun i hi => by have h1 := rowTot_mem ruleTot (List.getElem_mem hi); have h2 : rowTot ruleTot xs ≤ 1048576 := hg; omega
  obtain ⟨a, c, rfl⟩ := hv.slice
  have hBa : Below w.heap.size w (w.alloc (.cells #[.slice a xs.length c] 28)) := (Below.refl _ _).alloc (Nat.le_refl _) _
  have BW : Hid (Below w.heap.size w ((w.alloc (.cells #[.slice a xs.length c] 28)).alloc (.cells #[.slice none 0 0] 28))) := hBa.alloc hBa.size _
  have P1 : Hid (((w.alloc (.cells #[.slice a xs.length c] 28)).alloc (.cells #[.slice none 0 0] 28)).heap[w.heap.size + 1]? = some (.cells #[.slice none 0 0] 28)) := by
    have h := heap_alloc_new (w.alloc (.cells #[.slice a xs.length c] 28)) (.cells #[.slice none 0 0] 28)
    rwa [show (w.alloc (.cells #[.slice a xs.length c] 28)).heap.size = w.heap.size + 1 by simp] at h
  have hE : ((w.alloc (.cells #[.slice a xs.length c] 28)).alloc (.cells #[.slice none 0 0] 28)).cell? ⟨w.heap.size, 0, none⟩ = some (.slice a xs.length c) := cell_keep (box_at _ _ _ 0 _ rfl) ((Below.refl _ _).alloc (Nat.le_refl _) _)
  have HSt : Hid (∀ W, Below w.heap.size w W → RowC 3 RuleE W (.slice a xs.length c) xs) := fun W hW => RowC.below RuleE_stable hv hW
  have HS : Hid (((w.alloc (.cells #[.slice a xs.length c] 28)).alloc (.cells #[.slice none 0 0] 28)).heap.size = w.heap.size + 2) := by rw [Hid]; simp
  have HCl : Hid (∀ W, Below w.heap.size w W → _) := fun W hW => clonedGrammar_any (.slice a xs.length c) xs W hg (HSt.out W hW)
  have HGo : Hid (∀ W, Below w.heap.size w W → _) := fun W hW => implGrammarOk_any (.slice a xs.length c) xs W (hErr.below hW) hg (HSt.out W hW)
  have HMt : Hid (gramB xs = true → ∀ W, Below w.heap.size w W → _) := fun hgr W hW => rulesMet_any (.slice a xs.length c) xs W hgr hg (HSt.out W hW)
  clear hv hBa hErr
  go_enter Tryz.func7, Tryz.ntmps7
  go_wp2_with fail
  generalize ((w.alloc (.cells #[.slice a xs.length c] 28)).alloc (.cells #[.slice none 0 0] 28)) = W0 at *
  have HFin : Hid (∀ (V : World) (o : Value) (L : List RuleD), Below W0.heap.size W0 V → RowF 3 42 RuleF (Nw W0.heap.size V.heap.size) o L V → (V.cell? ⟨w.heap.size + 1, 0, none⟩ = some (.slice none 0 0) ∧ V.frozen? ⟨w.heap.size + 1, 0, none⟩ = false) ∧ ∃ V', V' = V.setCell ⟨w.heap.size + 1, 0, none⟩ o ∧ V'.cell? ⟨w.heap.size + 1, 0, none⟩ = some o ∧ RowF 3 42 RuleF (Nw w.heap.size V'.heap.size) o L V' ∧ Below w.heap.size w V') := fun V o L hV hR => by
    have h1 : V.heap[w.heap.size + 1]? = some (.cells #[.slice none 0 0] 28) := (hV.block _ (by rw [HS.out]; omega)).trans P1.out
    refine ⟨⟨cell_block h1 rfl, frozen_block h1⟩, _, rfl, cell_block (block_set h1) rfl, ?_, ?_⟩
    · have h3 := hR.ag stabRule ((Kp.store (F := fun q => q = w.heap.size + 1) (w := V) (o := 0) (u := o) rfl).ag (fun q hq e => by have := hq.1; have := HS.out; omega))
      exact h3.up (fun q hq => ⟨by have := hq.1; have := HS.out; omega, by have h4 := hq.2; simpa [World.setCell] using h4⟩)
    · exact (BW.out.trans (hV.mono BW.out.size)).setCell (Nat.le_succ _) _
  refine (HGo.out _ BW.out).mono ?_
  rintro e w1 ⟨rfl, hb1⟩
  have B1 : Hid (Below W0.heap.size W0 w1) := hb1
  have hE1 := cell_keep hE hb1
  have BW1 : Hid (Below w.heap.size w w1) := BW.out.trans (hb1.mono BW.out.size)
  clear hb1 hE
  cases hgo : gramB xs with
  | false =>
    have HT : Hid (trimB xs = xs) := by rw [Hid, trimB, hgo]; exact if_neg (by simp)
    clear hgo
    go_wp2_with fail
    refine (HCl.out _ BW1.out).mono ?_
    rintro e w2 ⟨o2, rfl, hr2, hb2⟩
    have ho2 : RowF 3 42 RuleF (Nw W0.heap.size w2.heap.size) o2 xs w2 := hr2.up (fun k hk => ⟨by have := hk.1; have := B1.out.size; omega, hk.2⟩)
    obtain ⟨ao2, co2, rfl⟩ := ho2.slice
    obtain ⟨⟨y1, f1⟩, V', hV', z1, z2, z3⟩ := HFin.out w2 _ xs (B1.out.trans (hb2.mono B1.out.size)) ho2
    have HZ2 : Hid _ := z2
    have HZ3 : Hid _ := z3
    have HVe : Hid (V' = _) := hV'
    clear z2 z3 hV' ho2 hr2 hb2
    go_wp2
    rw [← HVe.out]
    refine bodyPost_ret (by simp [results, Tryz.results7, go_sem, z1]; try rfl) rfl ?_
    rw [HT.out]
    exact ⟨_, rfl, HZ2.out, HZ3.out⟩
  | true =>
    have HMt2 : Hid (_) := HMt.out hgo
    have HT : Hid (trimB xs = trimTo xs xs.length) := by rw [Hid, trimB, if_pos hgo]
    clear hgo HMt
    go_wp2_with fail
    refine (HMt2.out _ BW1.out).mono ?_
    rintro e w2 ⟨lv, L, rfl, hlv, hLl, hLk, hb2⟩
    obtain ⟨la, lc, rfl⟩ := hlv.row.slice
    rw [zs15_len] at hlv ⊢
    have HLk : Hid (∀ q, L.contains q = keepT xs q) := hLk
    have B2 : Hid (Below w1.heap.size w1 w2) := hb2
    have hX : ((w2.alloc (.cells #[.slice la L.length lc] 46)).alloc (.cells #[.slice none 0 0] 28)).heap[w2.heap.size]? = some (.cells #[.slice la L.length lc] 46) := (Below.heap_alloc _ _ _ (by simp)).trans (heap_alloc_new _ _)
    have hB3 : Below w2.heap.size w2 ((w2.alloc (.cells #[.slice la L.length lc] 46)).alloc (.cells #[.slice none 0 0] 28)) := ((Below.refl _ _).alloc (Nat.le_refl _) _).alloc (by simp) _
    have HM3 : Hid (Met15 w2.heap.size w1.heap.size L (.slice la L.length lc) ((w2.alloc (.cells #[.slice la L.length lc] 46)).alloc (.cells #[.slice none 0 0] 28))) := ⟨hX, OwnZ.below hlv hB3⟩
    have OB3 : Hid (((w2.alloc (.cells #[.slice la L.length lc] 46)).alloc (.cells #[.slice none 0 0] 28)).heap[w2.heap.size + 1]? = some (.cells #[.slice none 0 0] 28)) := by
      have h := heap_alloc_new (w2.alloc (.cells #[.slice la L.length lc] 46)) (.cells #[.slice none 0 0] 28)
      rwa [show (w2.alloc (.cells #[.slice la L.length lc] 46)).heap.size = w2.heap.size + 1 by simp] at h
    have S3 : Hid (((w2.alloc (.cells #[.slice la L.length lc] 46)).alloc (.cells #[.slice none 0 0] 28)).heap.size = w2.heap.size + 2) := by rw [Hid]; simp
    have B3 : Hid (Below w2.heap.size w2 ((w2.alloc (.cells #[.slice la L.length lc] 46)).alloc (.cells #[.slice none 0 0] 28))) := hB3
    have hE3 := cell_keep hE1 (hb2.trans (hB3.mono hb2.size))
    clear hlv hb2 hX hB3 hLk
    go_wp2_with fail
    generalize ((w2.alloc (.cells #[.slice la L.length lc] 46)).alloc (.cells #[.slice none 0 0] 28)) = W3 at *
    have BW3 : Hid (Below w.heap.size w W3) := (BW1.out.trans (B2.out.mono BW1.out.size)).trans (B3.out.mono (Nat.le_trans BW1.out.size B2.out.size))
    have hS3 := S3.out
    have HOff : Hid ((Value.slice la L.length lc).ownBlock ≠ some (w2.heap.size + 1)) := own_offT HM3.out.own OB3.out (by decide)
    have HR0 : Hid (RowF 3 42 RuleF (Nw W3.heap.size W3.heap.size) (.slice none 0 0) (trimTo xs 0) W3) := RowF.nil
    go_loopw [18] (fun kv wr => ∃ (k : Nat) (ov : Value), kv = .int .i64 k ∧ k ≤ xs.length ∧ wr.heap[w2.heap.size + 1]? = some (.cells #[ov] 28) ∧ RowF 3 42 RuleF (Nw W3.heap.size wr.heap.size) ov (trimTo xs k) wr ∧ Kp (fun q => q = w2.heap.size + 1) W3 wr) (fun kv _ => xs.length - (intOf kv).toNat)
    case atStart => exact ⟨0, _, rfl, Nat.zero_le _, OB3.out, HR0.out, Kp.refl⟩
    case round =>
      clear OB3 HR0
      obtain ⟨k, ov, rfl, hk, hbx, hrw, hkp⟩ := hrel
      obtain ⟨wk, rfl⟩ : ∃ W, W = wr := ⟨wr, rfl⟩
      obtain ⟨oa, oc, rfl⟩ := hrw.slice
      have HBx : Hid (wk.heap[w2.heap.size + 1]? = some (.cells #[.slice oa (trimTo xs k).length oc] 28)) := hbx
      have HRw : Hid (RowF 3 42 RuleF (Nw W3.heap.size wk.heap.size) (.slice oa (trimTo xs k).length oc) (trimTo xs k) wk) := hrw
      have HKp : Hid (Kp (fun q => q = w2.heap.size + 1) W3 wk) := hkp
      have HBk : Hid (Below w.heap.size w wk) := Kp.onto BW3.out (Nat.le_refl _) (fun q hq => by have := BW1.out.size; have := B2.out.size; omega) hkp
      have hwb : w2.heap.size + 1 < wk.heap.size := (Array.getElem?_eq_some_iff.1 hbx).1
      have hws : W3.heap.size ≤ wk.heap.size := hkp.size
      have HMk : Hid (Met15 w2.heap.size w1.heap.size L (.slice la L.length lc) wk) := ⟨(hkp.block _ (by omega) (by simp)).trans HM3.out.box, own_ag HM3.out.own (F := fun q => q ≠ w2.heap.size + 1) (hkp.ag (fun q hq e => hq e)) (fun q hq e => HOff.out (e ▸ hq))⟩
      have hkl : (trimTo xs k).length ≤ k := trimTo_len _ _
      have c9 : wk.cell? ⟨w2.heap.size + 1, 0, none⟩ = some (.slice oa (trimTo xs k).length oc) := cell_block hbx rfl
      clear hbx hrw hkp
      by_cases hlk : k < xs.length
      · have i6 : (k : Int) < (xs.length : Int) := by omega
        obtain ⟨b, off, vs, hab, _, hc, hEl⟩ := (HSt.out wk HBk.out).at hlk
        subst hab
        obtain ⟨r0, r1, rfl, hh0, hh1⟩ := hEl
        have n0 : wk.cell? ⟨b, off + k * 3, none⟩ = some (.string xs[k].name) := by have h := hc 0 (by simp); exact h
        have n1 : wk.cell? ⟨b, off + k * 3 + 1, none⟩ = some r0 := by have h := hc 1 (by simp); exact h
        have n2 : wk.cell? ⟨b, off + k * 3 + 2, none⟩ = some r1 := by have h := hc 2 (by simp); exact h
        have HTc : Hid (∀ W, Below wk.heap.size wk W → _) := fun W hW => clonedRule_any r0 r1 xs[k] W (HTz.out k hlk) (hh0.below hW) (RowC.below AltE_stable hh1 hW)
        obtain ⟨aa0, ca0, rfl⟩ := hh0.slice
        obtain ⟨aa1, ca1, rfl⟩ := hh1.slice
        clear hc hh0 hh1
        have bx : Below wk.heap.size wk (wk.alloc (.cells #[.string xs[k].name, .slice aa0 xs[k].params.length ca0, .slice aa1 xs[k].alts.length ca1] 42)) := (Below.refl _ _).alloc (Nat.le_refl _) _
        have HBX : Hid (_) := bx
        have x0 : (wk.alloc (.cells #[.string xs[k].name, .slice aa0 xs[k].params.length ca0, .slice aa1 xs[k].alts.length ca1] 42)).cell? ⟨wk.heap.size, 0, none⟩ = some (.string xs[k].name) := box_at _ _ _ 0 _ rfl
        have x1 : (wk.alloc (.cells #[.string xs[k].name, .slice aa0 xs[k].params.length ca0, .slice aa1 xs[k].alts.length ca1] 42)).cell? ⟨wk.heap.size, 1, none⟩ = some (.slice aa0 xs[k].params.length ca0) := box_at _ _ _ 1 _ rfl
        have x2 : (wk.alloc (.cells #[.string xs[k].name, .slice aa0 xs[k].params.length ca0, .slice aa1 xs[k].alts.length ca1] 42)).cell? ⟨wk.heap.size, 2, none⟩ = some (.slice aa1 xs[k].alts.length ca1) := box_at _ _ _ 2 _ rfl
        have c9x := cell_keep c9 bx
        have HHs : Hid (∀ _ : Unit, _) := fun _ => has15_any (keepT xs k) w2.heap.size w1.heap.size L _ k _ (HLk.out k) (by omega) (HMk.out.below bx)
        clear bx
        cases hkt : keepT xs k with
        | true =>
          have HTn : Hid (trimTo xs (k + 1) = trimTo xs k ++ [xs[k]]) := by rw [Hid, trimTo_next _ _ hlk, if_pos hkt]
          rw [hkt] at HHs
          clear hkt
          go_wp2_with (go_at_call 20; refine (HHs.out ()).mono ?_; rintro e wq ⟨rfl, hw⟩; rw [hw]; clear hw)
          generalize (wk.alloc (.cells #[.string xs[k].name, .slice aa0 xs[k].params.length ca0, .slice aa1 xs[k].alts.length ca1] 42)) = wx at *
          refine wp_region_K (k := 5) (S := fun V => V.cell? ⟨w2.heap.size + 1, 0, none⟩ = some (.slice oa (trimTo xs k).length oc) ∧ V.cell? ⟨wk.heap.size, 0, none⟩ = some (.string xs[k].name) ∧ V.cell? ⟨wk.heap.size, 1, none⟩ = some (.slice aa0 xs[k].params.length ca0) ∧ V.cell? ⟨wk.heap.size, 2, none⟩ = some (.slice aa1 xs[k].alts.length ca1)) (by kernel_rfl) ?_ (fun hHeld hcl => ?_)
          · exact ⟨c9x, x0, x1, x2⟩
          refine wpAnyK_free (i := 0) (d := some 25) (v := ?cv0) (by assumption) rfl (by kernel_rfl) (by kernel_rfl) (by kernel_rfl) (by decide) (by rfl) (fun _ _ _ h => h) (Or.inl ⟨by rfl, ?ch0⟩) (.inr (by assumption)) (fun hcl0 => ?cr0)
          case ch0 => (intro w hSw; (try dsimp only at hSw); go_simp; first | done | with_reducible rfl)
          case' cr0 => (clear hcl; simp only [Act.put, List.setIfInBounds_toArray, List.set_cons_zero, List.set_cons_succ])
          refine wpAnyK_take [1] (i := 1) (d := some 26) (v := ?cv1) (by assumption) rfl (by kernel_rfl) (by kernel_rfl) (by kernel_rfl) (by kernel_rfl) (by kernel_rfl) (by decide) (by rfl) (fun _ _ _ h => h) (Or.inl ⟨by rfl, ?ch1⟩) (by assumption) (fun hcl1 => ?cr1)
          case ch1 => (intro w hSw; (try dsimp only at hSw); go_simp; first | done | with_reducible rfl)
          case' cr1 => (clear hcl0; simp only [Act.put, List.setIfInBounds_toArray, List.set_cons_zero, List.set_cons_succ])
          refine wpAnyK_take [4, 3, 2] (i := 2) (d := some 27) (v := ?cv2) (by assumption) rfl (by kernel_rfl) (by kernel_rfl) (by kernel_rfl) (by kernel_rfl) (by kernel_rfl) (by decide) (by rfl) (fun _ _ _ h => h) (Or.inl ⟨by rfl, ?ch2⟩) (by assumption) (fun hcl2 => ?cr2)
          case ch2 => (intro w hSw; (try dsimp only at hSw); go_simp; first | done | with_reducible rfl)
          case' cr2 => (clear hcl1; simp only [Act.put, List.setIfInBounds_toArray, List.set_cons_zero, List.set_cons_succ])
          refine wpAnyK_one (i := 3) (by assumption) (by kernel_rfl) rfl (fun K hK => ?_)
          go_simp
          go_at_call 21
          refine (HTc.out _ HBX.out.drew).mono ?_
          rintro e w5 ⟨o5, p5, rfl, ho5, hb5⟩
          have hb5' : Below wx.heap.size wx w5 := bel_of_drew hb5
          obtain ⟨ao, co, ap, cp, rfl, rfl⟩ := ho5.slices
          have B5 : Below wk.heap.size wk w5 := HBX.out.trans (hb5'.mono HBX.out.size)
          have E5 : RuleF (Nw wk.heap.size w5.heap.size) w5 [.string xs[k].name, .slice ao xs[k].params.length co, .slice ap xs[k].alts.length cp] xs[k] := stabRule.up _ _ _ _ _ ho5 (fun q hq => nw_up HBX.out.size (Nat.le_refl _) hq)
          have d9 := cell_keep c9x hb5'
          have d0 := cell_keep x0 hb5'
          have d1 := cell_keep x1 hb5'
          have d2 := cell_keep x2 hb5'
          go_simp
          refine hK.out _ _ ⟨d9, d0, d1, d2⟩ (fun hcl3 => ?_)
          have bal : Below w5.heap.size w5 (w5.alloc (.cells #[.string xs[k].name, .slice ao xs[k].params.length co, .slice ap xs[k].alts.length cp] 42)) := (Below.refl _ _).alloc (Nat.le_refl _) _
          refine wpAnyK_one (i := 4) (by assumption) (by kernel_rfl) rfl (fun K hK => ?_)
          go_simp
          refine hK.out _ _ ⟨cell_keep d9 bal, cell_keep d0 bal, cell_keep d1 bal, cell_keep d2 bal⟩ (fun hcl4 => ?_)
          obtain ⟨cs, hcs, hAdd⟩ := HRw.out.add stabRule hws (Nat.le_refl _)
          have O5 := own_below hcs B5
          refine wpAnyK_past (i := 5) (by assumption) (by kernel_rfl) rfl (by kernel_rfl) (fun K hK => ?_)
          refine step_append_lies _ (by rfl) _ _ _ (by rfl) 0 42 i0 _ 3 64 Tryz.underlying26 hi hz0 hz1 hz2 rfl (by omega) _ _ _ (by rfl) (World.ownsRow.alloc O5 _) ⟨w5.heap.size, 0, none⟩ 1 1 [.string xs[k].name, .slice ao xs[k].params.length co, .slice ap xs[k].alts.length cp] (by rfl) (by rfl) (cells_new _ _ _) (three_ruleP _ _ _ _ _ _ _) (by omega) (by show (trimTo xs k).length + 1 ≤ _; unfold maxLen; omega) (by show ((trimTo xs k).length + 1) * 64 ≤ _; omega) (Nat.zero_le _) (w5.heap.size + 1) (by simp) ?_
          intro gg capg w6 hown6 hgrow hat hlt6
          have J6 : RowF 3 42 RuleF (Nw W3.heap.size w6.heap.size) (.slice (some ⟨gg, 0, none⟩) ((trimTo xs k).length + 1) capg) (trimTo xs (k + 1)) w6 := by
            rw [HTn.out]
            exact hAdd w5 w6 _ _ _ xs[k] rfl B5 E5 hown6 hgrow (by
              rcases hat with h | h
              · exact .inl h.symm
              · exact .inr (by simp [Value.ownBlock, h]))
          have hgs : w5.heap.size ≤ w6.heap.size := Nat.le_trans bal.size hgrow.size
          have hgb : ∀ j, j < wk.heap.size → some j ≠ (Value.slice oa (trimTo xs k).length oc).ownBlock → w6.heap[j]? = wk.heap[j]? := fun j hj hn => (hgrow.block j (Nat.lt_of_lt_of_le hj (Nat.le_trans B5.size bal.size)) hn).trans ((bal.block j (Nat.lt_of_lt_of_le hj B5.size)).trans (B5.block j hj))
          have hne : ∀ j, j < W3.heap.size → some j ≠ (Value.slice oa (trimTo xs k).length oc).ownBlock := fun j hj e => by have := (HRw.out.lt _ e.symm).1.1; omega
          have hb6 : w6.heap[w2.heap.size + 1]? = some (.cells #[.slice oa (trimTo xs k).length oc] 28) := (hgb _ hwb (hne _ (by omega))).trans HBx.out
          have c6 : w6.cell? ⟨w2.heap.size + 1, 0, none⟩ = some (.slice oa (trimTo xs k).length oc) := cell_block hb6 rfl
          have f6 : w6.frozen? ⟨w2.heap.size + 1, 0, none⟩ = false := frozen_block hb6
          have K6 : Kp (fun q => q = w2.heap.size + 1) W3 w6 := ⟨hgrow.os.trans (bal.os.trans (B5.os.trans HKp.out.os)), hgrow.tape.trans (bal.tape.trans (B5.tape.trans HKp.out.tape)), hgrow.output.trans (bal.output.trans (B5.output.trans HKp.out.output)), Nat.le_trans hws (Nat.le_trans B5.size hgs), fun j hj hF => (hgb j (by omega) (hne j hj)).trans (HKp.out.block j hj hF)⟩
          have K7 : Hid (Kp (fun q => q = w2.heap.size + 1) W3 (w6.setCell ⟨w2.heap.size + 1, 0, none⟩ (.slice (some ⟨gg, 0, none⟩) ((trimTo xs k).length + 1) capg))) := K6.trans (Kp.store rfl)
          have X7 : Hid ((w6.setCell ⟨w2.heap.size + 1, 0, none⟩ (.slice (some ⟨gg, 0, none⟩) ((trimTo xs k).length + 1) capg)).heap[w2.heap.size + 1]? = some (.cells #[.slice (some ⟨gg, 0, none⟩) ((trimTo xs k).length + 1) capg] 28)) := block_set hb6
          have R7 : Hid (RowF 3 42 RuleF (Nw W3.heap.size (w6.setCell ⟨w2.heap.size + 1, 0, none⟩ (.slice (some ⟨gg, 0, none⟩) ((trimTo xs k).length + 1) capg)).heap.size) (.slice (some ⟨gg, 0, none⟩) ((trimTo xs k).length + 1) capg) (trimTo xs (k + 1)) (w6.setCell ⟨w2.heap.size + 1, 0, none⟩ (.slice (some ⟨gg, 0, none⟩) ((trimTo xs k).length + 1) capg))) := by
            have h3 := J6.ag stabRule ((Kp.store (F := fun q => q = w2.heap.size + 1) (w := w6) (o := 0) (u := (.slice (some ⟨gg, 0, none⟩) ((trimTo xs k).length + 1) capg)) rfl).ag (fun q hq e => by have := hq.1; omega))
            exact h3.up (fun q hq => ⟨hq.1, by have h4 := hq.2; simpa [World.setCell] using h4⟩)
          refine hK.out _ _ (fun hcl5 => ?_)
          clear hcl3 hcl4 hgrow hat hown6 hgs hgb hne bal hHeld hb6 K6 J6 hcs hAdd O5 E5 B5 hb5 hb5' ho5 d9 d0 d1 d2 c9x x0 x1 x2 n0 n1 n2
          refine wpAnyK_past (i := 6) (by assumption) (by kernel_rfl) rfl (by kernel_rfl) (fun K hK => ?_)
          go_simp
          refine hK.out _ _ (fun hcl6 => ?_)
          refine wpAnyK_past (i := 7) (by assumption) (by kernel_rfl) rfl (by kernel_rfl) (fun K hK => ?_)
          go_simp
          refine hK.out _ _ (fun hcl7 => ?_)
          refine wpAnyK_done (by kernel_rfl) ?_
          clear hcl5 hcl6 hcl7 c6 f6
          go_wp2
          go_roundw
          case rel => exact ⟨k + 1, _, by go_num, by omega, X7.out, R7.out, K7.out⟩
          case measure => simp [intOf]; omega
        | false =>
          have HTn : Hid (trimTo xs (k + 1) = trimTo xs k) := by rw [Hid, trimTo_next _ _ hlk, if_neg (by rw [hkt]; simp)]
          rw [hkt] at HHs
          clear hkt
          have hX7 : (wk.alloc (.cells #[.string xs[k].name, .slice aa0 xs[k].params.length ca0, .slice aa1 xs[k].alts.length ca1] 42)).heap[w2.heap.size + 1]? = some (.cells #[.slice oa (trimTo xs k).length oc] 28) := (HBX.out.block _ hwb).trans HBx.out
          have HX7 : Hid (_) := hX7
          have HR7 : Hid (RowF 3 42 RuleF (Nw W3.heap.size (wk.alloc (.cells #[.string xs[k].name, .slice aa0 xs[k].params.length ca0, .slice aa1 xs[k].alts.length ca1] 42)).heap.size) (.slice oa (trimTo xs k).length oc) (trimTo xs (k + 1)) (wk.alloc (.cells #[.string xs[k].name, .slice aa0 xs[k].params.length ca0, .slice aa1 xs[k].alts.length ca1] 42))) := by
            rw [Hid, HTn.out]
            exact (HRw.out.below stabRule HBX.out).up (fun q hq => nw_up (Nat.le_refl _) HBX.out.size hq)
          have HK7 : Hid (Kp (fun q => q = w2.heap.size + 1) W3 (wk.alloc (.cells #[.string xs[k].name, .slice aa0 xs[k].params.length ca0, .slice aa1 xs[k].alts.length ca1] 42))) := HKp.out.trans (Kp.below HBX.out)
          clear hX7 HBX
          go_wp2_with (go_at_call 20; refine (HHs.out ()).mono ?_; rintro e wq ⟨rfl, hw⟩; rw [hw]; clear hw)
          go_roundw
          case rel => exact ⟨k + 1, _, by go_num, by omega, HX7.out, HR7.out, HK7.out⟩
          case measure => simp [intOf]; omega
      · obtain rfl : k = xs.length := by omega
        have i6 : ¬ (xs.length : Int) < (xs.length : Int) := by omega
        have hR : RowF 3 42 RuleF (Nw W0.heap.size wk.heap.size) (.slice oa (trimTo xs xs.length).length oc) (trimTo xs xs.length) wk := HRw.out.up (fun q hq => ⟨by have h2 := hq.1; have := B1.out.size; have := B2.out.size; omega, hq.2⟩)
        have hBl : Below W0.heap.size W0 wk := by
          have h1 : Below W0.heap.size W0 w2 := B1.out.trans (B2.out.mono B1.out.size)
          have h2 : Below W0.heap.size W0 W3 := h1.trans (B3.out.mono h1.size)
          exact Kp.onto h2 (Nat.le_refl _) (fun q hq => by have := h1.size; omega) HKp.out
        obtain ⟨⟨y1, f1⟩, V', hV', z1, z2, z3⟩ := HFin.out wk _ _ hBl hR
        have HZ2 : Hid _ := z2
        have HZ3 : Hid _ := z3
        have HVe : Hid (V' = _) := hV'
        clear z2 z3 hV' hR hBl
        go_wp2
        rw [← HVe.out]
        refine bodyPost_ret (by simp [results, Tryz.results7, go_sem, z1]; try rfl) rfl ?_
        rw [HT.out]
        exact ⟨_, rfl, HZ2.out, HZ3.out⟩

end Go.Proofs.YtkmkfpgaehgonaaGreatDoor

