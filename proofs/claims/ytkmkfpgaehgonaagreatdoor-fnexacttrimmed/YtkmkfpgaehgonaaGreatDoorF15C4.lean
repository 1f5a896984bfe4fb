/- The program's clone of a rule. -/
/- The program's clones of rows of syms, alternatives and rules, and of a grammar (printed by mk/clone.py). -/
import Derived.Test.YtkmkfpgaehgonaaGreatDoorF15C2
namespace Go.Proofs.YtkmkfpgaehgonaaGreatDoor
open Go.RowKit
set_option linter.unusedVariables false

set_option maxHeartbeats 3200000 in
set_option maxRecDepth 100000 in
theorem clonedRule_any (r0 r1 : Value) (x : RuleD) (w : World) (hz : ruleTot x ≤ 1048576) (h : SRow w r0 x.params) (h1 : RowC 1 AltE w r1 x.alts) :
    Calls Tryz.prog 21 #[.agg #[.string x.name, r0, r1]] w fun e w' => ∃ o p, e = .returned (.agg #[.string x.name, o, p]) ∧ RuleF (Nw w.heap.size w'.heap.size) w' [.string x.name, o, p] x ∧ Below w.heap.size w w' := by
  have e0 : ruleTot x = x.name.size + rowTot ByteArray.size x.params + rowTot altTot x.alts := rfl
  have HCn : Hid (∀ W, _) := fun W => cloneS x.name W (by omega)
  obtain ⟨a, c, rfl⟩ := h.slice
  obtain ⟨b, d, rfl⟩ := h1.slice
  obtain ⟨Wa, hWa⟩ : ∃ Wa, Wa = w.alloc (.cells #[.string x.name, .slice a x.params.length c, .slice b x.alts.length d] 42) := ⟨_, rfl⟩
  have ha1 : Wa.heap.size = w.heap.size + 1 := by rw [hWa]; simp
  have hBa : Below w.heap.size w Wa := by rw [hWa]; exact (Below.refl _ _).alloc (Nat.le_refl _) _
  have hPa : Wa.heap[w.heap.size]? = some (.cells #[.string x.name, .slice a x.params.length c, .slice b x.alts.length d] 42) := by rw [hWa]; exact heap_alloc_new _ _
  have BW : Hid (Below w.heap.size w (Wa.alloc (.cells #[.string ⟨#[]⟩, .slice none 0 0, .slice none 0 0] 42))) := hBa.alloc hBa.size _
  have P1 : Hid ((Wa.alloc (.cells #[.string ⟨#[]⟩, .slice none 0 0, .slice none 0 0] 42)).heap[w.heap.size + 1]? = some (.cells #[.string ⟨#[]⟩, .slice none 0 0, .slice none 0 0] 42)) := by
    have h := heap_alloc_new Wa (.cells #[.string ⟨#[]⟩, .slice none 0 0, .slice none 0 0] 42)
    rwa [ha1] at h
  have P0 : Hid ((Wa.alloc (.cells #[.string ⟨#[]⟩, .slice none 0 0, .slice none 0 0] 42)).heap[w.heap.size]? = some (.cells #[.string x.name, .slice a x.params.length c, .slice b x.alts.length d] 42)) := (Below.heap_alloc _ _ _ (by omega)).trans hPa
  have HS : Hid ((Wa.alloc (.cells #[.string ⟨#[]⟩, .slice none 0 0, .slice none 0 0] 42)).heap.size = w.heap.size + 2) := by rw [Hid]; simp [ha1]
  have HTp : Hid (∀ W, Below w.heap.size w W → _) := fun W hW => clonedTexts_any (.slice a x.params.length c) x.params W (by omega) (h.below hW)
  have HTa : Hid (∀ W, Below w.heap.size w W → _) := fun W hW => eachAlt_any (.slice b x.alts.length d) x.alts W (by omega) (RowC.below AltE_stable h1 hW)
  have HWa : Hid (Wa = _) := hWa
  clear h h1 hz hBa hPa ha1 hWa e0
  go_enter Tryz.func21, Tryz.ntmps21
  go_upto_region 1 with fail
  rw [← HWa.out]
  generalize Wa.alloc (.cells #[.string ⟨#[]⟩, .slice none 0 0, .slice none 0 0] 42) = W0 at *
  have HK0 : Hid (∀ V : World, Below W0.heap.size W0 V → V.cell? ⟨w.heap.size, 0, none⟩ = some (.string x.name) ∧ V.cell? ⟨w.heap.size, 1, none⟩ = some (.slice a x.params.length c) ∧ V.cell? ⟨w.heap.size, 2, none⟩ = some (.slice b x.alts.length d)) := fun V hV => by
    have h : V.heap[w.heap.size]? = _ := (hV.block _ (by rw [HS.out]; omega)).trans P0.out
    exact ⟨cell_block h rfl, cell_block h rfl, cell_block h rfl⟩
  have HK1 : Hid (∀ V : World, Below W0.heap.size W0 V → V.heap[w.heap.size + 1]? = some (.cells #[.string ⟨#[]⟩, .slice none 0 0, .slice none 0 0] 42)) := fun V hV => (hV.block _ (by rw [HS.out]; omega)).trans P1.out
  have HK2 : Hid (∀ (V : World) (z0 z1 z2 : Value), Below W0.heap.size W0 V → (((V.setCell ⟨w.heap.size + 1, 0, none⟩ z0).setCell ⟨w.heap.size + 1, 1, none⟩ z1).setCell ⟨w.heap.size + 1, 2, none⟩ z2).cell? ⟨w.heap.size, 0, none⟩ = some (.string x.name) ∧ (((V.setCell ⟨w.heap.size + 1, 0, none⟩ z0).setCell ⟨w.heap.size + 1, 1, none⟩ z1).setCell ⟨w.heap.size + 1, 2, none⟩ z2).cell? ⟨w.heap.size, 1, none⟩ = some (.slice a x.params.length c) ∧ (((V.setCell ⟨w.heap.size + 1, 0, none⟩ z0).setCell ⟨w.heap.size + 1, 1, none⟩ z1).setCell ⟨w.heap.size + 1, 2, none⟩ z2).cell? ⟨w.heap.size, 2, none⟩ = some (.slice b x.alts.length d)) := fun V z0 z1 z2 hV => by
    have h : V.heap[w.heap.size]? = _ := (hV.block _ (by rw [HS.out]; omega)).trans P0.out
    have h2 : (((V.setCell ⟨w.heap.size + 1, 0, none⟩ z0).setCell ⟨w.heap.size + 1, 1, none⟩ z1).setCell ⟨w.heap.size + 1, 2, none⟩ z2).heap[w.heap.size]? = _ := (block_other (b' := w.heap.size + 1) (by omega)).trans ((block_other (b' := w.heap.size + 1) (by omega)).trans ((block_other (b' := w.heap.size + 1) (by omega)).trans h))
    exact ⟨cell_block h2 rfl, cell_block h2 rfl, cell_block h2 rfl⟩
  have HY : Hid (∀ V : World, Below W0.heap.size W0 V → (V.cell? ⟨w.heap.size + 1, 0, none⟩ = some (.string ⟨#[]⟩) ∧ V.cell? ⟨w.heap.size + 1, 1, none⟩ = some (.slice none 0 0) ∧ V.cell? ⟨w.heap.size + 1, 2, none⟩ = some (.slice none 0 0)) ∧ (V.frozen? ⟨w.heap.size + 1, 0, none⟩ = false ∧ V.frozen? ⟨w.heap.size + 1, 1, none⟩ = false ∧ V.frozen? ⟨w.heap.size + 1, 2, none⟩ = false)) := fun V hV =>
    ⟨⟨cell_block (HK1.out V hV) rfl, cell_block (HK1.out V hV) rfl, cell_block (HK1.out V hV) rfl⟩, frozen_block (HK1.out V hV), frozen_block (HK1.out V hV), frozen_block (HK1.out V hV)⟩
  have HEnd : Hid (∀ (V1 V2 V : World) (pa : Option Addr) (pc : Nat) (ba : Option Addr) (bc : Nat), w.heap.size + 2 ≤ V1.heap.size → OwnB V1.heap.size (.slice pa x.params.length pc) x.params V2 → RowF 1 60 AltF (Nw V2.heap.size V.heap.size) (.slice ba x.alts.length bc) x.alts V → Below V1.heap.size V1 V2 → Below V2.heap.size V2 V → Below W0.heap.size W0 V → ∃ V', V' = (((V.setCell ⟨w.heap.size + 1, 0, none⟩ (.string x.name)).setCell ⟨w.heap.size + 1, 1, none⟩ (.slice pa x.params.length pc)).setCell ⟨w.heap.size + 1, 2, none⟩ (.slice ba x.alts.length bc)) ∧ V'.heap[w.heap.size + 1]? = some (.cells #[.string x.name, .slice pa x.params.length pc, .slice ba x.alts.length bc] 42) ∧ RuleF (Nw w.heap.size V'.heap.size) V' [.string x.name, .slice pa x.params.length pc, .slice ba x.alts.length bc] x ∧ Below w.heap.size w V') := fun V1 V2 V pa pc ba bc h0 h1 h2 hb1 hb2 hV => by
    have k1 : Kp (fun q => q = w.heap.size + 1) V (((V.setCell ⟨w.heap.size + 1, 0, none⟩ (.string x.name)).setCell ⟨w.heap.size + 1, 1, none⟩ (.slice pa x.params.length pc)).setCell ⟨w.heap.size + 1, 2, none⟩ (.slice ba x.alts.length bc)) := by
      have st : ∀ (U : World) (o : Nat) (u : Value), Kp (fun q => q = w.heap.size + 1) U (U.setCell ⟨w.heap.size + 1, o, none⟩ u) := fun U o u => Kp.store rfl
      exact ((st _ _ _).trans (st _ _ _)).trans (st _ _ _)
    have hs1 := hb1.size
    have hs2 := hb2.size
    have hs3 := k1.size
    refine ⟨_, rfl, block_set (block_set (block_set (HK1.out V hV))), ⟨_, _, Nw V1.heap.size V2.heap.size, Nw V2.heap.size V.heap.size, rfl, ?_, fun k hk => World.ownsRow.lt h1 k hk, ?_, fun k hk => ⟨by have := hk.1; omega, by have := hk.2; omega⟩, fun k hk => ⟨by have := hk.1; omega, by have := hk.2; omega⟩, fun k hk hk2 => by have := hk.2; have := hk2.1; omega⟩, ?_⟩
    · have h3 := own_below h1 hb2
      exact World.ownsRow.mono (own_ag h3 (k1.ag (F := Nw V1.heap.size V2.heap.size) (fun q hq e => by have := hq.1; omega)) (fun k hk => World.ownsRow.lt h1 k hk)) (Nat.zero_le _)
    · exact h2.ag stabAlt (k1.ag (fun q hq e => by have := hq.1; omega))
    · have h3 := BW.out.trans (hV.mono BW.out.size)
      exact ((h3.setCell (show w.heap.size ≤ w.heap.size + 1 from Nat.le_succ _) _).setCell (show w.heap.size ≤ w.heap.size + 1 from Nat.le_succ _) _).setCell (show w.heap.size ≤ w.heap.size + 1 from Nat.le_succ _) _
  obtain ⟨p0, p1, p2⟩ := HK0.out W0 (Below.refl _ _)
  clear HK1 P0 P1
  generalize hnm : x.name = nm at *
  have HNm : Hid (x.name = nm) := hnm
  clear hnm
  go_region_held3 (fun V => V.cell? ⟨w.heap.size, 0, none⟩ = some (.string nm) ∧ V.cell? ⟨w.heap.size, 1, none⟩ = some (.slice a x.params.length c) ∧ V.cell? ⟨w.heap.size, 2, none⟩ = some (.slice b x.alts.length d))
    ((first | (with_reducible exact HK0.out _ B1) | (with_reducible exact HK0.out _ B2) | (with_reducible exact HK0.out _ B3) | (with_reducible exact HK2.out _ _ _ _ B3) | go_keep))
    ((first
      | (go_at_call 39; refine (HCn.out _).mono ?_; rintro e w1 ⟨rfl, hb1⟩; have B1 : Below W0.heap.size W0 w1 := bel_of_drew hb1)
      | (go_at_call 40; refine (HTp.out _ (BW.out.trans (B1.mono BW.out.size))).mono ?_; rintro e w2 ⟨o2, rfl, ho2, hb2⟩; obtain ⟨pa, pc, hpa⟩ := own_shape15 ho2; subst hpa; have B2 : Below W0.heap.size W0 w2 := B1.trans (hb2.mono B1.size))
      | (go_at_call 41; refine (HTa.out _ (BW.out.trans (B2.mono BW.out.size))).mono ?_; rintro e w3 ⟨o3, rfl, ho3, hb3⟩; obtain ⟨ba, bc, hba⟩ := ho3.slice; subst hba; have B3 : Below W0.heap.size W0 w3 := B2.trans (hb3.mono B2.size); obtain ⟨⟨y0, y1, y2⟩, f0, f1, f2⟩ := HY.out _ B3)))
  obtain ⟨V', hV', z1, z2, z3⟩ := HEnd.out w1 w2 w3 pa pc ba bc (by have := B1.size; rw [HS.out] at this; exact this) ho2 ho3 hb2 hb3 B3
  have HZ2 : Hid _ := z2
  have HZ3 : Hid _ := z3
  have y0 : V'.cell? ⟨w.heap.size + 1, 0, none⟩ = _ := cell_block z1 rfl
  have y1 : V'.cell? ⟨w.heap.size + 1, 1, none⟩ = _ := cell_block z1 rfl
  have y2 : V'.cell? ⟨w.heap.size + 1, 2, none⟩ = _ := cell_block z1 rfl
  rw [← hV']
  clear z1 z2 z3
  go_wp2
  refine bodyPost_ret (by simp [results, Tryz.results21, go_sem, y0, y1, y2]; try rfl) rfl ?_
  exact ⟨_, _, by rw [HNm.out], by rw [HNm.out]; exact HZ2.out, HZ3.out⟩

end Go.Proofs.YtkmkfpgaehgonaaGreatDoor

namespace Go.Proofs.YtkmkfpgaehgonaaGreatDoor
open Go.RowKit
set_option linter.unusedVariables false

set_option maxHeartbeats 3200000 in
set_option maxRecDepth 100000 in
theorem eachRule_any (v : Value) (xs : List (RuleD)) (w : World) (hz : rowTot ruleTot xs ≤ 1048576) (h : RowC 3 RuleE w v xs) :
    Calls Tryz.prog 34 #[v, .func (.func 21) #[] #[]] w fun e w' => ∃ o, e = .returned o ∧ RowF 3 42 RuleF (Nw w.heap.size w'.heap.size) o xs w' ∧ Below w.heap.size w w' := by
  obtain ⟨i0, hi, hz0, hz1, hz2⟩ := info_parts Tryz.infoRule
  have hn := rowTot_len ruleTot xs
  have HTz : Hid (∀ i (h : i < xs.length), ruleTot xs[i] ≤ 1048576) := fun i hi => by have := rowTot_mem ruleTot (List.getElem_mem hi); omega
  have HR : Hid (RowC 3 RuleE w v xs) := h
  obtain ⟨a, cap, rfl⟩ := h.slice
  clear h
  go_enter Tryz.func34, Tryz.ntmps34
  go_wp2_with (at_make; refine wpList_make_own _ rfl _ _ 26 rfl w.heap.size 42 i0 _ 3 Tryz.underlying26 hi hz0 hz1 .i64 .i64 _ xs.length rfl rfl rfl (by rw [hz2]; omega) (by unfold maxLen; omega) (Nat.le_refl _) ?_; intro w1 hown hg1)
  have O1 : Hid (RowF 3 42 RuleF (Nw w.heap.size w1.heap.size) (.slice (some ⟨w.heap.size, 0, none⟩) 0 xs.length) (xs.take 0) w1) := RowF.made hown ⟨Nat.le_refl _, (World.ownsRow.lt hown _ rfl).2⟩
  have B1 : Hid (Below w.heap.size w w1) := (Below.refl _ _).grown hg1 (Nat.le_refl _) (fun k h => by cases h)
  clear hown hg1
  go_loopw [5, 13] (fun ov iv wr => ∃ k : Nat, iv = .int .i64 k ∧ k ≤ xs.length ∧ RowF 3 42 RuleF (Nw w.heap.size wr.heap.size) ov (xs.take k) wr ∧ Below w.heap.size w wr) (fun _ iv _ => xs.length - (intOf iv).toNat)
  case atStart => exact ⟨0, rfl, Nat.zero_le _, O1.out, B1.out⟩
  case round =>
    clear O1 B1
    obtain ⟨k, rfl, hk, hrow, hb⟩ := hrel
    have HW : Hid (RowF 3 42 RuleF (Nw w.heap.size wr.heap.size) u5 (xs.take k) wr) := hrow
    have HB : Hid (Below w.heap.size w wr) := hb
    clear hrow hb
    by_cases hlt : k < xs.length
    · obtain ⟨b, off, vs, rfl, _, hc, hE⟩ := (RowC.below RuleE_stable HR.out HB.out).at hlt
      obtain ⟨r0, r1, rfl, hh0, hh1⟩ := hE
      have n0 : wr.cell? ⟨b, off + k * 3, none⟩ = some (.string xs[k].name) := by have h := hc 0 (by simp); exact h
      have n1 : wr.cell? ⟨b, off + k * 3 + 1, none⟩ = some (r0) := by have h := hc 1 (by simp); exact h
      have n2 : wr.cell? ⟨b, off + k * 3 + 2, none⟩ = some (r1) := by have h := hc 2 (by simp); exact h
      have HT : Hid (∀ W, Below wr.heap.size wr W → _) := fun W hW => clonedRule_any r0 r1 xs[k] W (HTz.out k hlt) (hh0.below hW) (RowC.below AltE_stable hh1 hW)
      obtain ⟨aa0, ca0, rfl⟩ := hh0.slice
      obtain ⟨aa1, ca1, rfl⟩ := hh1.slice
      clear hc hh0 hh1
      have hkl : (xs.take k).length = k := by rw [List.length_take]; omega
      obtain ⟨cs, hcs, hAdd⟩ := HW.out.add stabRule HB.out.size (Nat.le_refl _)
      rw [hkl] at hcs hAdd
      have HAdd : Hid (_) := hAdd
      have HNx : Hid (xs.take (k + 1) = xs.take k ++ [xs[k]]) := List.take_succ_eq_append_getElem hlt
      have BX : Hid (Below wr.heap.size wr (wr.alloc (.cells #[.string xs[k].name, .slice aa0 xs[k].params.length ca0, .slice aa1 xs[k].alts.length ca1] 42))) := (Below.refl _ _).alloc (Nat.le_refl _) _
      have HCs : Hid (_) := hcs
      have i4 : (k : Int) < (xs.length : Int) := by omega
      have HLt : Hid (∀ q, u5.ownBlock = some q → w.heap.size ≤ q) := fun q hq => (HW.out.lt q hq).1.1
      clear hcs hAdd HW hkl
      go_wp2_with fail
      refine (HT.out _ BX.out).mono ?_
      rintro e w2 ⟨o2, p2, rfl, ho2, hb2⟩
      obtain ⟨ao, co, ap, cp, rfl, rfl⟩ := ho2.slices
      have B2 : Hid (Below wr.heap.size wr w2) := BX.out.trans (hb2.mono BX.out.size)
      have E2 : Hid (RuleF (Nw wr.heap.size w2.heap.size) w2 [.string xs[k].name, .slice ao xs[k].params.length co, .slice ap xs[k].alts.length cp] xs[k]) := stabRule.up _ _ _ _ _ ho2 (fun q hq => nw_up BX.out.size (Nat.le_refl _) hq)
      have O2 : Hid (_) := own_below HCs.out B2.out
      have BB : Hid (Below w.heap.size w w2) := HB.out.trans (B2.out.mono HB.out.size)
      clear hb2 ho2 HT BX HCs
      go_wp2_with (at_builtin; refine wpList_append_own_at _ rfl _ _ 26 rfl 0 42 i0 _ 3 64 Tryz.underlying26 hi hz0 hz1 hz2 rfl (by decide) _ _ _ rfl (World.ownsRow.alloc O2.out _) ⟨_, 0, none⟩ 1 1 [.string xs[k].name, .slice ao xs[k].params.length co, .slice ap xs[k].alts.length cp] rfl rfl (cells_new _ _ _) (by intro u hu; simp only [List.mem_cons, List.not_mem_nil, or_false] at hu; rcases hu with rfl | rfl | rfl <;> rfl) (by unfold maxLen; omega) (by omega) (Nat.zero_le _) ?_)
      intro v5 w5 hown5 hgr5 _ hat5
      obtain ⟨a5, c5, rfl⟩ := own_shape15 hown5
      have J5 : Hid (_) := HAdd.out w2 w5 _ _ _ xs[k] rfl B2.out E2.out hown5 hgr5 (hat_of hat5)
      have B5 : Hid (Below w.heap.size w w5) := (BB.out.alloc BB.out.size _).grown hgr5 (by have := BB.out.size; simp; omega) HLt.out
      clear hown5 hgr5 hat5
      go_wp2
      go_roundw
      case rel => exact ⟨k + 1, by go_num, by omega, by rw [HNx.out]; exact J5.out, B5.out⟩
      case measure => simp [intOf]; omega
    · obtain rfl : k = xs.length := by omega
      rw [List.take_of_length_le (Nat.le_refl _)] at HW
      have i4 : ¬ (xs.length : Int) < (xs.length : Int) := by omega
      go_wp2
      go_ret
      exact ⟨_, rfl, HW.out, HB.out⟩

set_option maxHeartbeats 1600000 in
set_option maxRecDepth 100000 in
theorem clonedGrammar_any (r0 : Value) (x : List RuleD) (w : World) (hz : grammarTot x ≤ 1048576) (h : RowC 3 RuleE w r0 x) :
    Calls Tryz.prog 18 #[.agg #[r0]] w fun e w' => ∃ o, e = .returned (.agg #[o]) ∧ RowF 3 42 RuleF (Nw w.heap.size w'.heap.size) o x w' ∧ Below w.heap.size w w' := by
  obtain ⟨a, c, rfl⟩ := h.slice
  have hBa : Below w.heap.size w (w.alloc (.cells #[.slice a x.length c] 28)) := (Below.refl _ _).alloc (Nat.le_refl _) _
  have BW : Hid (Below w.heap.size w ((w.alloc (.cells #[.slice a x.length c] 28)).alloc (.cells #[.slice none 0 0] 28))) := hBa.alloc hBa.size _
  have P1 : Hid (((w.alloc (.cells #[.slice a x.length c] 28)).alloc (.cells #[.slice none 0 0] 28)).heap[w.heap.size + 1]? = some (.cells #[.slice none 0 0] 28)) := by
    have h := heap_alloc_new (w.alloc (.cells #[.slice a x.length c] 28)) (.cells #[.slice none 0 0] 28)
    rwa [show (w.alloc (.cells #[.slice a x.length c] 28)).heap.size = w.heap.size + 1 by simp] at h
  have hE : ((w.alloc (.cells #[.slice a x.length c] 28)).alloc (.cells #[.slice none 0 0] 28)).cell? ⟨w.heap.size, 0, none⟩ = some (.slice a x.length c) := cell_keep (box_at _ _ _ 0 _ rfl) ((Below.refl _ _).alloc (Nat.le_refl _) _)
  have HC : Hid (∀ W, Below w.heap.size w W → _) := fun W hW => eachRule_any (.slice a x.length c) x W (by unfold grammarTot at hz; exact hz) (RowC.below RuleE_stable h hW)
  have HS : Hid (((w.alloc (.cells #[.slice a x.length c] 28)).alloc (.cells #[.slice none 0 0] 28)).heap.size = w.heap.size + 2) := by rw [Hid]; simp
  clear h hz hBa
  go_enter Tryz.func18, Tryz.ntmps18
  go_wp2_with fail
  generalize (w.alloc (.cells #[.slice a x.length c] 28)).alloc (.cells #[.slice none 0 0] 28) = W0 at *
  refine (HC.out _ BW.out).mono ?_
  rintro e w2 ⟨o2, rfl, ho2, hb2⟩
  obtain ⟨ao, co, rfl⟩ := ho2.slice
  have B2 : Hid (Below w.heap.size w w2) := BW.out.trans (hb2.mono BW.out.size)
  have P2 : Hid (w2.heap[w.heap.size + 1]? = some (.cells #[.slice none 0 0] 28)) := (hb2.block _ (by rw [HS.out]; omega)).trans P1.out
  have R2 : Hid (RowF 3 42 RuleF (Nw (w.heap.size + 2) w2.heap.size) (.slice ao x.length co) x w2) := by rw [Hid, ← HS.out]; exact ho2
  have y0 : w2.cell? ⟨w.heap.size + 1, 0, none⟩ = some (.slice none 0 0) := cell_block P2.out rfl
  have g0 : w2.frozen? ⟨w.heap.size + 1, 0, none⟩ = false := frozen_block P2.out
  have Q3 : (w2.setCell ⟨w.heap.size + 1, 0, none⟩ (.slice ao x.length co)).heap[w.heap.size + 1]? = some (.cells #[.slice ao x.length co] 28) := block_set P2.out
  have y3 : (w2.setCell ⟨w.heap.size + 1, 0, none⟩ (.slice ao x.length co)).cell? ⟨w.heap.size + 1, 0, none⟩ = some (.slice ao x.length co) := cell_block Q3 rfl
  have HF : Hid (RowF 3 42 RuleF (Nw w.heap.size (w2.setCell ⟨w.heap.size + 1, 0, none⟩ (.slice ao x.length co)).heap.size) (.slice ao x.length co) x (w2.setCell ⟨w.heap.size + 1, 0, none⟩ (.slice ao x.length co))) := by
    have h1 := R2.out.ag stabRule ((Kp.store (F := fun q => q = w.heap.size + 1) (w := w2) (o := 0) (u := .slice ao x.length co) rfl).ag (fun q hq e => by have := hq.1; omega))
    exact h1.up (fun q hq => ⟨by have := hq.1; omega, by have := hq.2; simpa [World.setCell] using this⟩)
  have HB : Hid (Below w.heap.size w (w2.setCell ⟨w.heap.size + 1, 0, none⟩ (.slice ao x.length co))) := B2.out.setCell (show w.heap.size ≤ w.heap.size + 1 from Nat.le_succ _) _
  clear hb2 ho2 Q3
  go_wp2
  refine bodyPost_ret (by simp [results, Tryz.results18, go_sem, y3]; try rfl) rfl ?_
  exact ⟨_, rfl, HF.out, HB.out⟩

end Go.Proofs.YtkmkfpgaehgonaaGreatDoor
