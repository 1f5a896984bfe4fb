/- The program's clone of a sym. -/
import Derived.Test.YtkmkfpgaehgonaaGreatDoorF15C1
namespace Go.Proofs.YtkmkfpgaehgonaaGreatDoor
open Go.RowKit
set_option linter.unusedVariables false

set_option maxHeartbeats 3200000 in
set_option maxRecDepth 100000 in
theorem clonedSym_any (r0 : Value) (x : SymD) (w : World) (hz : symTot x ≤ 1048576) (h : RowC 1 ExprE w r0 x.args) :
    Calls Tryz.prog 68 #[.agg #[.int .i64 x.kind, .string x.text, r0, .string x.bind]] w fun e w' => ∃ o, e = .returned (.agg #[.int .i64 x.kind, .string x.text, o, .string x.bind]) ∧ RowF 1 88 ExprF (Nw w.heap.size w'.heap.size) o x.args w' ∧ Below w.heap.size w w' := by
  obtain ⟨i0, hi, hz0, hz1, hz2⟩ := info_parts Tryz.infoExpr
  have e0 : symTot x = x.text.size + rowTot exprTot x.args + x.bind.size := rfl
  have hxl := rowTot_len exprTot x.args
  have hxl2 : x.args.length ≤ 1048576 := by omega
  have HTz : Hid (∀ i (h : i < x.args.length), exprTot x.args[i] ≤ 1048576) := fun i hi => by have := rowTot_mem exprTot (List.getElem_mem hi); omega
  have HCt : Hid (∀ W, _) := fun W => cloneS x.text W (by omega)
  have HCb : Hid (∀ W, _) := fun W => cloneS x.bind W (by omega)
  obtain ⟨a, c, rfl⟩ := h.slice
  obtain ⟨Wa, hWa⟩ : ∃ Wa, Wa = w.alloc (.cells #[.int .i64 x.kind, .string x.text, .slice a x.args.length c, .string x.bind] 63) := ⟨_, rfl⟩
  have ha1 : Wa.heap.size = w.heap.size + 1 := by rw [hWa]; simp
  have hBa : Below w.heap.size w Wa := by rw [hWa]; exact (Below.refl _ _).alloc (Nat.le_refl _) _
  have hPa : Wa.heap[w.heap.size]? = some (.cells #[.int .i64 x.kind, .string x.text, .slice a x.args.length c, .string x.bind] 63) := by rw [hWa]; exact heap_alloc_new _ _
  have BW : Hid (Below w.heap.size w (Wa.alloc (.cells #[.int .i64 0, .string ⟨#[]⟩, .slice none 0 0, .string ⟨#[]⟩] 63))) := hBa.alloc hBa.size _
  have P1 : Hid ((Wa.alloc (.cells #[.int .i64 0, .string ⟨#[]⟩, .slice none 0 0, .string ⟨#[]⟩] 63)).heap[w.heap.size + 1]? = some (.cells #[.int .i64 0, .string ⟨#[]⟩, .slice none 0 0, .string ⟨#[]⟩] 63)) := by
    have h := heap_alloc_new Wa (.cells #[.int .i64 0, .string ⟨#[]⟩, .slice none 0 0, .string ⟨#[]⟩] 63)
    rwa [ha1] at h
  have P0 : Hid ((Wa.alloc (.cells #[.int .i64 0, .string ⟨#[]⟩, .slice none 0 0, .string ⟨#[]⟩] 63)).heap[w.heap.size]? = some (.cells #[.int .i64 x.kind, .string x.text, .slice a x.args.length c, .string x.bind] 63)) := (Below.heap_alloc _ _ _ (by omega)).trans hPa
  have HR : Hid (RowC 1 ExprE (Wa.alloc (.cells #[.int .i64 0, .string ⟨#[]⟩, .slice none 0 0, .string ⟨#[]⟩] 63)) (.slice a x.args.length c) x.args) := RowC.below ExprE_stable h BW.out
  have HS : Hid ((Wa.alloc (.cells #[.int .i64 0, .string ⟨#[]⟩, .slice none 0 0, .string ⟨#[]⟩] 63)).heap.size = w.heap.size + 2) := by rw [Hid]; simp [ha1]
  have EA : Hid (∀ W0 : World, RowF 1 88 ExprF (Nw W0.heap.size (W0.alloc (.cells #[] 88)).heap.size) (.slice (some ⟨W0.heap.size, 0, none⟩) 0 0) (x.args.take 0) (W0.alloc (.cells #[] 88))) := fun W0 => by
    have hm := World.ownsRow_made (base := W0.heap.size) W0 #[] 0 (e := 88) (size := 1) (Nat.le_refl _) (by decide) rfl
    exact RowF.made hm ⟨Nat.le_refl _, by simp⟩
  have HWa : Hid (Wa = _) := hWa
  clear h hz hBa hPa ha1 hWa e0 hxl
  go_enter Tryz.func68, Tryz.ntmps68
  go_upto_region 1 with fail
  rw [← HWa.out]
  generalize Wa.alloc (.cells #[.int .i64 0, .string ⟨#[]⟩, .slice none 0 0, .string ⟨#[]⟩] 63) = W0 at *
  have O1 : Hid (_) := EA.out W0
  have B1 : Hid (Below W0.heap.size W0 (W0.alloc (.cells #[] 88))) := (Below.refl _ _).alloc (Nat.le_refl _) _
  have hE0 : W0.cell? ⟨w.heap.size, 2, none⟩ = some (.slice a x.args.length c) := cell_block P0.out rfl
  have hE1 := cell_keep hE0 B1.out
  clear EA HWa
  go_wp2
  go_loopw [3, 10] (fun ov iv wr => ∃ k : Nat, iv = .int .i64 k ∧ k ≤ x.args.length ∧ RowF 1 88 ExprF (Nw W0.heap.size wr.heap.size) ov (x.args.take k) wr ∧ Below W0.heap.size W0 wr) (fun _ iv _ => x.args.length - (intOf iv).toNat)
  case atStart => exact ⟨0, rfl, Nat.zero_le _, O1.out, B1.out⟩
  case round =>
    clear O1 B1 hE1 hE0
    obtain ⟨k, rfl, hk, hrow, hb⟩ := hrel
    have HW : Hid (RowF 1 88 ExprF (Nw W0.heap.size wr.heap.size) u3 (x.args.take k) wr) := hrow
    have HB : Hid (Below W0.heap.size W0 wr) := hb
    clear hrow hb
    by_cases hlt : k < x.args.length
    · obtain ⟨b, off, vs, rfl, _, hc, hE⟩ := (RowC.below ExprE_stable HR.out HB.out).at hlt
      obtain ⟨q0, rfl, hq0⟩ := hE
      have n0 : wr.cell? ⟨b, off + k, none⟩ = some q0 := by have h := hc 0 (by simp); rw [Nat.mul_one] at h; exact h
      have HT : Hid (∀ W, Below wr.heap.size wr W → _) := fun W hW => clonedExpr_any q0 x.args[k] W (HTz.out k hlt) (hq0.below hW)
      obtain ⟨qa, qc, rfl⟩ := hq0.slice
      clear hc hq0
      have hkl : (x.args.take k).length = k := by rw [List.length_take]; omega
      obtain ⟨cs, hcs, hAdd⟩ := HW.out.add stabExpr HB.out.size (Nat.le_refl _)
      rw [hkl] at hcs hAdd
      have HAdd : Hid (_) := hAdd
      have HNx : Hid (x.args.take (k + 1) = x.args.take k ++ [x.args[k]]) := List.take_succ_eq_append_getElem hlt
      have BX : Hid (Below wr.heap.size wr (wr.alloc (.cells #[.slice qa x.args[k].length qc] 88))) := (Below.refl _ _).alloc (Nat.le_refl _) _
      have HCs : Hid (_) := hcs
      have i4 : (k : Int) < (x.args.length : Int) := by omega
      have HLt : Hid (∀ q, u3.ownBlock = some q → W0.heap.size ≤ q) := fun q hq => (HW.out.lt q hq).1.1
      clear hcs hAdd HW hkl
      go_wp2_with fail
      refine (HT.out _ BX.out).mono ?_
      rintro e w2 ⟨o2, rfl, ho2, hb2⟩
      obtain ⟨ao, co, rfl⟩ := ho2.slice
      have B2 : Hid (Below wr.heap.size wr w2) := BX.out.trans (hb2.mono BX.out.size)
      have E2 : Hid (ExprF (Nw wr.heap.size w2.heap.size) w2 [.slice ao x.args[k].length co] x.args[k]) := ⟨_, rfl, ho2.up (fun q hq => nw_up BX.out.size (Nat.le_refl _) hq)⟩
      have O2 : Hid (_) := own_below HCs.out B2.out
      have BB : Hid (Below W0.heap.size W0 w2) := HB.out.trans (B2.out.mono HB.out.size)
      clear hb2 ho2 HT BX HCs
      go_wp2_with (at_builtin; refine wpList_append_own_at _ rfl _ _ 61 rfl 0 88 i0 _ 1 24 Tryz.underlying61 hi hz0 hz1 hz2 rfl (by decide) _ _ _ rfl (World.ownsRow.alloc O2.out _) ⟨_, 0, none⟩ 1 1 [.slice ao x.args[k].length co] rfl rfl (cells_new _ _ _) (by intro u hu; simp only [List.mem_cons, List.not_mem_nil, or_false] at hu; subst hu; rfl) (by unfold maxLen; omega) (by omega) (Nat.zero_le _) ?_)
      intro v5 w5 hown5 hgr5 _ hat5
      obtain ⟨a5, c5, rfl⟩ := own_shape15 hown5
      have J5 : Hid (_) := HAdd.out w2 w5 _ _ _ x.args[k] rfl B2.out E2.out hown5 hgr5 (hat_of hat5)
      have B5 : Hid (Below W0.heap.size W0 w5) := (BB.out.alloc BB.out.size _).grown hgr5 (by have := BB.out.size; simp; omega) HLt.out
      clear hown5 hgr5 hat5
      go_wp2
      go_roundw
      case rel => exact ⟨k + 1, by go_num, by omega, by rw [HNx.out]; exact J5.out, B5.out⟩
      case measure => simp [intOf]; omega
    · obtain rfl : k = x.args.length := by omega
      rw [List.take_of_length_le (Nat.le_refl _)] at HW
      obtain ⟨ao, co, rfl⟩ := HW.out.slice
      have i4 : ¬ (x.args.length : Int) < (x.args.length : Int) := by omega
      have HZ : Hid (w.heap.size + 2 ≤ wr.heap.size) := by have := HB.out.size; rw [HS.out] at this; exact this
      have B2 : Hid (Below w.heap.size w wr) := BW.out.trans (HB.out.mono BW.out.size)
      have Q0 : Hid (wr.heap[w.heap.size]? = some (.cells #[.int .i64 x.kind, .string x.text, .slice a x.args.length c, .string x.bind] 63)) := (HB.out.block _ (by rw [HS.out]; omega)).trans P0.out
      have Q1 : Hid (wr.heap[w.heap.size + 1]? = some (.cells #[.int .i64 0, .string ⟨#[]⟩, .slice none 0 0, .string ⟨#[]⟩] 63)) := (HB.out.block _ (by rw [HS.out]; omega)).trans P1.out
      have R2 : Hid (RowF 1 88 ExprF (Nw (w.heap.size + 2) wr.heap.size) (.slice ao x.args.length co) x.args wr) := by rw [Hid, ← HS.out]; exact HW.out
      have HK0 : Hid (∀ V : World, Below wr.heap.size wr V → V.cell? ⟨w.heap.size, 0, none⟩ = some (.int .i64 x.kind) ∧ V.cell? ⟨w.heap.size, 1, none⟩ = some (.string x.text) ∧ V.cell? ⟨w.heap.size, 3, none⟩ = some (.string x.bind)) := fun V hV => by
        have h : V.heap[w.heap.size]? = _ := (hV.block _ (by have := HZ.out; omega)).trans Q0.out
        exact ⟨cell_block h rfl, cell_block h rfl, cell_block h rfl⟩
      have HK1 : Hid (∀ V : World, Below wr.heap.size wr V → V.heap[w.heap.size + 1]? = some (.cells #[.int .i64 0, .string ⟨#[]⟩, .slice none 0 0, .string ⟨#[]⟩] 63)) := fun V hV => (hV.block _ (by have := HZ.out; omega)).trans Q1.out
      have HK2 : Hid (∀ (V : World) (z0 z1 z2 z3 : Value), Below wr.heap.size wr V → ((((V.setCell ⟨w.heap.size + 1, 0, none⟩ z0).setCell ⟨w.heap.size + 1, 1, none⟩ z1).setCell ⟨w.heap.size + 1, 2, none⟩ z2).setCell ⟨w.heap.size + 1, 3, none⟩ z3).cell? ⟨w.heap.size, 0, none⟩ = some (.int .i64 x.kind) ∧ ((((V.setCell ⟨w.heap.size + 1, 0, none⟩ z0).setCell ⟨w.heap.size + 1, 1, none⟩ z1).setCell ⟨w.heap.size + 1, 2, none⟩ z2).setCell ⟨w.heap.size + 1, 3, none⟩ z3).cell? ⟨w.heap.size, 1, none⟩ = some (.string x.text) ∧ ((((V.setCell ⟨w.heap.size + 1, 0, none⟩ z0).setCell ⟨w.heap.size + 1, 1, none⟩ z1).setCell ⟨w.heap.size + 1, 2, none⟩ z2).setCell ⟨w.heap.size + 1, 3, none⟩ z3).cell? ⟨w.heap.size, 3, none⟩ = some (.string x.bind)) := fun V z0 z1 z2 z3 hV => by
        have h : V.heap[w.heap.size]? = _ := (hV.block _ (by have := HZ.out; omega)).trans Q0.out
        have h2 : ((((V.setCell ⟨w.heap.size + 1, 0, none⟩ z0).setCell ⟨w.heap.size + 1, 1, none⟩ z1).setCell ⟨w.heap.size + 1, 2, none⟩ z2).setCell ⟨w.heap.size + 1, 3, none⟩ z3).heap[w.heap.size]? = _ := (block_other (b' := w.heap.size + 1) (by omega)).trans ((block_other (b' := w.heap.size + 1) (by omega)).trans ((block_other (b' := w.heap.size + 1) (by omega)).trans ((block_other (b' := w.heap.size + 1) (by omega)).trans h)))
        exact ⟨cell_block h2 rfl, cell_block h2 rfl, cell_block h2 rfl⟩
      have HY : Hid (∀ V : World, Below wr.heap.size wr V → (V.cell? ⟨w.heap.size + 1, 0, none⟩ = some (.int .i64 0) ∧ V.cell? ⟨w.heap.size + 1, 1, none⟩ = some (.string ⟨#[]⟩) ∧ V.cell? ⟨w.heap.size + 1, 2, none⟩ = some (.slice none 0 0) ∧ V.cell? ⟨w.heap.size + 1, 3, none⟩ = some (.string ⟨#[]⟩)) ∧ (V.frozen? ⟨w.heap.size + 1, 0, none⟩ = false ∧ V.frozen? ⟨w.heap.size + 1, 1, none⟩ = false ∧ V.frozen? ⟨w.heap.size + 1, 2, none⟩ = false ∧ V.frozen? ⟨w.heap.size + 1, 3, none⟩ = false)) := fun V hV =>
        ⟨⟨cell_block (HK1.out V hV) rfl, cell_block (HK1.out V hV) rfl, cell_block (HK1.out V hV) rfl, cell_block (HK1.out V hV) rfl⟩, frozen_block (HK1.out V hV), frozen_block (HK1.out V hV), frozen_block (HK1.out V hV), frozen_block (HK1.out V hV)⟩
      have HEnd : Hid (∀ V : World, Below wr.heap.size wr V → ∃ V', V' = ((((V.setCell ⟨w.heap.size + 1, 0, none⟩ (.int .i64 x.kind)).setCell ⟨w.heap.size + 1, 1, none⟩ (.string x.text)).setCell ⟨w.heap.size + 1, 2, none⟩ (.slice ao x.args.length co)).setCell ⟨w.heap.size + 1, 3, none⟩ (.string x.bind)) ∧ V'.heap[w.heap.size + 1]? = some (.cells #[.int .i64 x.kind, .string x.text, .slice ao x.args.length co, .string x.bind] 63) ∧ RowF 1 88 ExprF (Nw w.heap.size V'.heap.size) (.slice ao x.args.length co) x.args V' ∧ Below w.heap.size w V') := fun V hV => by
        refine ⟨_, rfl, block_set (block_set (block_set (block_set (HK1.out V hV)))), ?_, ?_⟩
        · have k1 : Kp (fun q => q = w.heap.size + 1) V ((((V.setCell ⟨w.heap.size + 1, 0, none⟩ (.int .i64 x.kind)).setCell ⟨w.heap.size + 1, 1, none⟩ (.string x.text)).setCell ⟨w.heap.size + 1, 2, none⟩ (.slice ao x.args.length co)).setCell ⟨w.heap.size + 1, 3, none⟩ (.string x.bind))  := by
            have st : ∀ (U : World) (o : Nat) (u : Value), Kp (fun q => q = w.heap.size + 1) U (U.setCell ⟨w.heap.size + 1, o, none⟩ u) := fun U o u => Kp.store rfl
            exact (((st _ _ _).trans (st _ _ _)).trans (st _ _ _)).trans (st _ _ _)
          have h1 := (R2.out.below stabExpr hV).ag stabExpr (k1.ag (fun q hq e => by have := hq.1; omega))
          exact h1.up (fun q hq => ⟨by have := hq.1; omega, by have h2 := hq.2; have h3 := hV.size; have h4 := k1.size; omega⟩)
        · have h1 := B2.out.trans (hV.mono B2.out.size)
          exact (((h1.setCell (show w.heap.size ≤ w.heap.size + 1 from Nat.le_succ _) _).setCell (show w.heap.size ≤ w.heap.size + 1 from Nat.le_succ _) _).setCell (show w.heap.size ≤ w.heap.size + 1 from Nat.le_succ _) _).setCell (show w.heap.size ≤ w.heap.size + 1 from Nat.le_succ _) _
      obtain ⟨p0, p1, p3⟩ := HK0.out wr (Below.refl _ _)
      clear HK1 Q0 Q1 R2 B2 HW HR
      go_upto_region 7 with fail
      generalize htx : x.text = tx at *
      generalize hbx : x.bind = bx at *
      have HTx : Hid (x.text = tx) := htx
      have HBx : Hid (x.bind = bx) := hbx
      clear htx hbx
      go_region_held3 (fun V => V.cell? ⟨w.heap.size, 0, none⟩ = some (.int .i64 x.kind) ∧ V.cell? ⟨w.heap.size, 1, none⟩ = some (.string tx) ∧ V.cell? ⟨w.heap.size, 3, none⟩ = some (.string bx))
        ((first | (with_reducible exact HK0.out _ BA) | (with_reducible exact HK0.out _ BB) | (with_reducible exact HK2.out _ _ _ _ _ BA) | (with_reducible exact HK2.out _ _ _ _ _ BB) | go_keep))
        ((first
          | (go_at_call 39; refine (HCt.out _).mono ?_; rintro e wa ⟨rfl, hba⟩; have BA : Below wr.heap.size wr wa := (by first | exact bel_of_drew hba | exact BB.trans (hba.mono BB.size)); obtain ⟨⟨ya0, ya1, ya2, ya3⟩, fa0, fa1, fa2, fa3⟩ := HY.out _ BA)
          | (go_at_call 39; refine (HCb.out _).mono ?_; rintro e wb ⟨rfl, hbb⟩; have BB : Below wr.heap.size wr wb := (by first | exact bel_of_drew hbb | exact BA.trans (hbb.mono BA.size)); obtain ⟨⟨yb0, yb1, yb2, yb3⟩, fb0, fb1, fb2, fb3⟩ := HY.out _ BB)))
      obtain ⟨V', hV', z1, z2, z3⟩ := HEnd.out wb BB
      have HZ2 : Hid _ := z2
      have HZ3 : Hid _ := z3
      have y0 : V'.cell? ⟨w.heap.size + 1, 0, none⟩ = _ := cell_block z1 rfl
      have y1 : V'.cell? ⟨w.heap.size + 1, 1, none⟩ = _ := cell_block z1 rfl
      have y2 : V'.cell? ⟨w.heap.size + 1, 2, none⟩ = _ := cell_block z1 rfl
      have y3 : V'.cell? ⟨w.heap.size + 1, 3, none⟩ = _ := cell_block z1 rfl
      rw [← hV']
      clear z1 z2 z3
      go_wp2
      refine bodyPost_ret (by simp [results, Tryz.results68, go_sem, y0, y1, y2, y3]; try rfl) rfl ?_
      exact ⟨_, by rw [HTx.out, HBx.out], HZ2.out, HZ3.out⟩

end Go.Proofs.YtkmkfpgaehgonaaGreatDoor
