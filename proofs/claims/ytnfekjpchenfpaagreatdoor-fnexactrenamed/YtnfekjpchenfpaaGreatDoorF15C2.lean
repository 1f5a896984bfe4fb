/- The program's clone of a sym. -/
/- The program's clones of rows of syms, alternatives and rules, and of a grammar (printed by mk/clone.py). -/
import Derived.Test.YtnfekjpchenfpaaGreatDoorF15C1
namespace Go.Proofs.YtnfekjpchenfpaaGreatDoor
open Go.RowKit
set_option linter.unusedVariables false

set_option maxHeartbeats 3200000 in
set_option maxRecDepth 100000 in
theorem clonedSym_any (r0 : Value) (x : SymD) (w : World) (hz : symTot x ≤ 1048576) (h : RowC 1 ExprE w r0 x.args) :
    Calls Tryz.prog 75 #[.agg #[.int .i64 x.kind, .string x.text, r0, .string x.bind]] w fun e w' => ∃ o, e = .returned (.agg #[.int .i64 x.kind, .string x.text, o, .string x.bind]) ∧ RowF 1 97 ExprF (Nw w.heap.size w'.heap.size) o x.args w' ∧ Below w.heap.size w w' := by
  obtain ⟨i0, hi, hz0, hz1, hz2⟩ := info_parts Tryz.infoExpr
  have e0 : symTot x = x.text.size + rowTot exprTot x.args + x.bind.size := rfl
  have hxl := rowTot_len exprTot x.args
  have hxl2 : x.args.length ≤ 1048576 := by omega
  have HTz : Hid (∀ i (h : i < x.args.length), exprTot x.args[i] ≤ 1048576) := fun i hi => by have := rowTot_mem exprTot (List.getElem_mem hi); omega
  have HCt : Hid (∀ W, _) := fun W => cloneS x.text W (by omega)
  have HCb : Hid (∀ W, _) := fun W => cloneS x.bind W (by omega)
  obtain ⟨a, c, rfl⟩ := h.slice
  obtain ⟨Wa, hWa⟩ : ∃ Wa, Wa = w.alloc (.cells #[.int .i64 x.kind, .string x.text, .slice a x.args.length c, .string x.bind] 61) := ⟨_, rfl⟩
  have ha1 : Wa.heap.size = w.heap.size + 1 := by rw [hWa]; simp
  have hBa : Below w.heap.size w Wa := by rw [hWa]; exact (Below.refl _ _).alloc (Nat.le_refl _) _
  have hPa : Wa.heap[w.heap.size]? = some (.cells #[.int .i64 x.kind, .string x.text, .slice a x.args.length c, .string x.bind] 61) := by rw [hWa]; exact heap_alloc_new _ _
  have BW : Hid (Below w.heap.size w (Wa.alloc (.cells #[.int .i64 0, .string ⟨#[]⟩, .slice none 0 0, .string ⟨#[]⟩] 61))) := hBa.alloc hBa.size _
  have P1 : Hid ((Wa.alloc (.cells #[.int .i64 0, .string ⟨#[]⟩, .slice none 0 0, .string ⟨#[]⟩] 61)).heap[w.heap.size + 1]? = some (.cells #[.int .i64 0, .string ⟨#[]⟩, .slice none 0 0, .string ⟨#[]⟩] 61)) := by
    have h := heap_alloc_new Wa (.cells #[.int .i64 0, .string ⟨#[]⟩, .slice none 0 0, .string ⟨#[]⟩] 61)
    rwa [ha1] at h
  have P0 : Hid ((Wa.alloc (.cells #[.int .i64 0, .string ⟨#[]⟩, .slice none 0 0, .string ⟨#[]⟩] 61)).heap[w.heap.size]? = some (.cells #[.int .i64 x.kind, .string x.text, .slice a x.args.length c, .string x.bind] 61)) := (Below.heap_alloc _ _ _ (by omega)).trans hPa
  have HR : Hid (RowC 1 ExprE (Wa.alloc (.cells #[.int .i64 0, .string ⟨#[]⟩, .slice none 0 0, .string ⟨#[]⟩] 61)) (.slice a x.args.length c) x.args) := RowC.below ExprE_stable h BW.out
  have HS : Hid ((Wa.alloc (.cells #[.int .i64 0, .string ⟨#[]⟩, .slice none 0 0, .string ⟨#[]⟩] 61)).heap.size = w.heap.size + 2) := by rw [Hid]; simp [ha1]
  have EA : Hid (∀ W0 : World, RowF 1 97 ExprF (Nw W0.heap.size (W0.alloc (.cells #[] 97)).heap.size) (.slice (some ⟨W0.heap.size, 0, none⟩) 0 0) (x.args.take 0) (W0.alloc (.cells #[] 97))) := fun W0 => by
    have hm := World.ownsRow_made (base := W0.heap.size) W0 #[] 0 (e := 97) (size := 1) (Nat.le_refl _) (by decide) rfl
    exact RowF.made hm ⟨Nat.le_refl _, by simp⟩
  have HWa : Hid (Wa = _) := hWa
  clear h hz hBa hPa ha1 hWa e0 hxl
  go_enter Tryz.func75, Tryz.ntmps75
  go_upto_region 1 with fail
  rw [← HWa.out]
  generalize Wa.alloc (.cells #[.int .i64 0, .string ⟨#[]⟩, .slice none 0 0, .string ⟨#[]⟩] 61) = W0 at *
  have O1 : Hid (_) := EA.out W0
  have B1 : Hid (Below W0.heap.size W0 (W0.alloc (.cells #[] 97))) := (Below.refl _ _).alloc (Nat.le_refl _) _
  have hE0 : W0.cell? ⟨w.heap.size, 2, none⟩ = some (.slice a x.args.length c) := cell_block P0.out rfl
  have hE1 := cell_keep hE0 B1.out
  clear EA HWa
  go_wp2
  go_loopw [3, 10] (fun ov iv wr => ∃ k : Nat, iv = .int .i64 k ∧ k ≤ x.args.length ∧ RowF 1 97 ExprF (Nw W0.heap.size wr.heap.size) ov (x.args.take k) wr ∧ Below W0.heap.size W0 wr) (fun _ iv _ => x.args.length - (intOf iv).toNat)
  case atStart => exact ⟨0, rfl, Nat.zero_le _, O1.out, B1.out⟩
  case round =>
    clear O1 B1 hE1 hE0
    obtain ⟨k, rfl, hk, hrow, hb⟩ := hrel
    have HW : Hid (RowF 1 97 ExprF (Nw W0.heap.size wr.heap.size) u3 (x.args.take k) wr) := hrow
    have HB : Hid (Below W0.heap.size W0 wr) := hb
    clear hrow hb
    by_cases hlt : k < x.args.length
    · obtain ⟨b, off, vs, rfl, _, hc, hE⟩ := (RowC.below ExprE_stable HR.out HB.out).at hlt
      obtain ⟨q0, rfl, hq0⟩ := hE
      have n0 : wr.cell? ⟨b, off + k, none⟩ = some q0 := by have h := hc 0 (by simp); rw [Nat.mul_one] at h; exact h
      have HT : Hid (∀ W, Below wr.heap.size wr W → _) := fun W hW => clonedExpr_any q0 x.args[k] W (HTz.out k hlt) (hq0.below hW)
      obtain ⟨qa, qc, rfl⟩ := hq0.slice
      clear hc hq0
      have hkl : (x.args.take k).length = k := by rw [List.length_take]; omega
      obtain ⟨cs, hcs, hAdd⟩ := HW.out.add stabExpr HB.out.size (Nat.le_refl _)
      rw [hkl] at hcs hAdd
      have HAdd : Hid (_) := hAdd
      have HNx : Hid (x.args.take (k + 1) = x.args.take k ++ [x.args[k]]) := List.take_succ_eq_append_getElem hlt
      have BX : Hid (Below wr.heap.size wr (wr.alloc (.cells #[.slice qa x.args[k].length qc] 97))) := (Below.refl _ _).alloc (Nat.le_refl _) _
      have HCs : Hid (_) := hcs
      have i4 : (k : Int) < (x.args.length : Int) := by omega
      have HLt : Hid (∀ q, u3.ownBlock = some q → W0.heap.size ≤ q) := fun q hq => (HW.out.lt q hq).1.1
      clear hcs hAdd HW hkl
      go_wp2_with fail
      refine (HT.out _ BX.out).mono ?_
      rintro e w2 ⟨o2, rfl, ho2, hb2⟩
      obtain ⟨ao, co, rfl⟩ := ho2.slice
      have B2 : Hid (Below wr.heap.size wr w2) := BX.out.trans (hb2.mono BX.out.size)
      have E2 : Hid (ExprF (Nw wr.heap.size w2.heap.size) w2 [.slice ao x.args[k].length co] x.args[k]) := ⟨_, rfl, ho2.up (fun q hq => nw_up BX.out.size (Nat.le_refl _) hq)⟩
      have O2 : Hid (_) := own_below HCs.out B2.out
      have BB : Hid (Below W0.heap.size W0 w2) := HB.out.trans (B2.out.mono HB.out.size)
      clear hb2 ho2 HT BX HCs
      go_wp2_with (at_builtin; refine wpList_append_own_at _ rfl _ _ 59 rfl 0 97 i0 _ 1 24 Tryz.underlying59 hi hz0 hz1 hz2 rfl (by decide) _ _ _ rfl (World.ownsRow.alloc O2.out _) ⟨_, 0, none⟩ 1 1 [.slice ao x.args[k].length co] rfl rfl (cells_new _ _ _) (by intro u hu; simp only [List.mem_cons, List.not_mem_nil, or_false] at hu; subst hu; rfl) (by unfold maxLen; omega) (by omega) (Nat.zero_le _) ?_)
      intro v5 w5 hown5 hgr5 _ hat5
      obtain ⟨a5, c5, rfl⟩ := own_shape15 hown5
      have J5 : Hid (_) := HAdd.out w2 w5 _ _ _ x.args[k] rfl B2.out E2.out hown5 hgr5 (hat_of hat5)
      have B5 : Hid (Below W0.heap.size W0 w5) := (BB.out.alloc BB.out.size _).grown hgr5 (by have := BB.out.size; simp; omega) HLt.out
      clear hown5 hgr5 hat5
      go_wp2
      go_roundw
      case rel => exact ⟨k + 1, by go_num, by omega, by rw [HNx.out]; exact J5.out, B5.out⟩
      case measure => simp [intOf]; omega
    · obtain rfl : k = x.args.length := by omega
      rw [List.take_of_length_le (Nat.le_refl _)] at HW
      obtain ⟨ao, co, rfl⟩ := HW.out.slice
      have i4 : ¬ (x.args.length : Int) < (x.args.length : Int) := by omega
      have HZ : Hid (w.heap.size + 2 ≤ wr.heap.size) := by have := HB.out.size; rw [HS.out] at this; exact this
      have B2 : Hid (Below w.heap.size w wr) := BW.out.trans (HB.out.mono BW.out.size)
      have Q0 : Hid (wr.heap[w.heap.size]? = some (.cells #[.int .i64 x.kind, .string x.text, .slice a x.args.length c, .string x.bind] 61)) := (HB.out.block _ (by rw [HS.out]; omega)).trans P0.out
      have Q1 : Hid (wr.heap[w.heap.size + 1]? = some (.cells #[.int .i64 0, .string ⟨#[]⟩, .slice none 0 0, .string ⟨#[]⟩] 61)) := (HB.out.block _ (by rw [HS.out]; omega)).trans P1.out
      have R2 : Hid (RowF 1 97 ExprF (Nw (w.heap.size + 2) wr.heap.size) (.slice ao x.args.length co) x.args wr) := by rw [Hid, ← HS.out]; exact HW.out
      have HK0 : Hid (∀ V : World, Below wr.heap.size wr V → V.cell? ⟨w.heap.size, 0, none⟩ = some (.int .i64 x.kind) ∧ V.cell? ⟨w.heap.size, 1, none⟩ = some (.string x.text) ∧ V.cell? ⟨w.heap.size, 3, none⟩ = some (.string x.bind)) := fun V hV => by
        have h : V.heap[w.heap.size]? = _ := (hV.block _ (by have := HZ.out; omega)).trans Q0.out
        exact ⟨cell_block h rfl, cell_block h rfl, cell_block h rfl⟩
      have HK1 : Hid (∀ V : World, Below wr.heap.size wr V → V.heap[w.heap.size + 1]? = some (.cells #[.int .i64 0, .string ⟨#[]⟩, .slice none 0 0, .string ⟨#[]⟩] 61)) := fun V hV => (hV.block _ (by have := HZ.out; omega)).trans Q1.out
      have HK2 : Hid (∀ (V : World) (z0 z1 z2 z3 : Value), Below wr.heap.size wr V → ((((V.setCell ⟨w.heap.size + 1, 0, none⟩ z0).setCell ⟨w.heap.size + 1, 1, none⟩ z1).setCell ⟨w.heap.size + 1, 2, none⟩ z2).setCell ⟨w.heap.size + 1, 3, none⟩ z3).cell? ⟨w.heap.size, 0, none⟩ = some (.int .i64 x.kind) ∧ ((((V.setCell ⟨w.heap.size + 1, 0, none⟩ z0).setCell ⟨w.heap.size + 1, 1, none⟩ z1).setCell ⟨w.heap.size + 1, 2, none⟩ z2).setCell ⟨w.heap.size + 1, 3, none⟩ z3).cell? ⟨w.heap.size, 1, none⟩ = some (.string x.text) ∧ ((((V.setCell ⟨w.heap.size + 1, 0, none⟩ z0).setCell ⟨w.heap.size + 1, 1, none⟩ z1).setCell ⟨w.heap.size + 1, 2, none⟩ z2).setCell ⟨w.heap.size + 1, 3, none⟩ z3).cell? ⟨w.heap.size, 3, none⟩ = some (.string x.bind)) := fun V z0 z1 z2 z3 hV => by
        have h : V.heap[w.heap.size]? = _ := (hV.block _ (by have := HZ.out; omega)).trans Q0.out
        have h2 : ((((V.setCell ⟨w.heap.size + 1, 0, none⟩ z0).setCell ⟨w.heap.size + 1, 1, none⟩ z1).setCell ⟨w.heap.size + 1, 2, none⟩ z2).setCell ⟨w.heap.size + 1, 3, none⟩ z3).heap[w.heap.size]? = _ := (block_other (b' := w.heap.size + 1) (by omega)).trans ((block_other (b' := w.heap.size + 1) (by omega)).trans ((block_other (b' := w.heap.size + 1) (by omega)).trans ((block_other (b' := w.heap.size + 1) (by omega)).trans h)))
        exact ⟨cell_block h2 rfl, cell_block h2 rfl, cell_block h2 rfl⟩
      have HY : Hid (∀ V : World, Below wr.heap.size wr V → (V.cell? ⟨w.heap.size + 1, 0, none⟩ = some (.int .i64 0) ∧ V.cell? ⟨w.heap.size + 1, 1, none⟩ = some (.string ⟨#[]⟩) ∧ V.cell? ⟨w.heap.size + 1, 2, none⟩ = some (.slice none 0 0) ∧ V.cell? ⟨w.heap.size + 1, 3, none⟩ = some (.string ⟨#[]⟩)) ∧ (V.frozen? ⟨w.heap.size + 1, 0, none⟩ = false ∧ V.frozen? ⟨w.heap.size + 1, 1, none⟩ = false ∧ V.frozen? ⟨w.heap.size + 1, 2, none⟩ = false ∧ V.frozen? ⟨w.heap.size + 1, 3, none⟩ = false)) := fun V hV =>
        ⟨⟨cell_block (HK1.out V hV) rfl, cell_block (HK1.out V hV) rfl, cell_block (HK1.out V hV) rfl, cell_block (HK1.out V hV) rfl⟩, frozen_block (HK1.out V hV), frozen_block (HK1.out V hV), frozen_block (HK1.out V hV), frozen_block (HK1.out V hV)⟩
      have HEnd : Hid (∀ V : World, Below wr.heap.size wr V → ∃ V', V' = ((((V.setCell ⟨w.heap.size + 1, 0, none⟩ (.int .i64 x.kind)).setCell ⟨w.heap.size + 1, 1, none⟩ (.string x.text)).setCell ⟨w.heap.size + 1, 2, none⟩ (.slice ao x.args.length co)).setCell ⟨w.heap.size + 1, 3, none⟩ (.string x.bind)) ∧ V'.heap[w.heap.size + 1]? = some (.cells #[.int .i64 x.kind, .string x.text, .slice ao x.args.length co, .string x.bind] 61) ∧ RowF 1 97 ExprF (Nw w.heap.size V'.heap.size) (.slice ao x.args.length co) x.args V' ∧ Below w.heap.size w V') := fun V hV => by
        refine ⟨_, rfl, block_set (block_set (block_set (block_set (HK1.out V hV)))), ?_, ?_⟩
        · have k1 : Kp (fun q => q = w.heap.size + 1) V ((((V.setCell ⟨w.heap.size + 1, 0, none⟩ (.int .i64 x.kind)).setCell ⟨w.heap.size + 1, 1, none⟩ (.string x.text)).setCell ⟨w.heap.size + 1, 2, none⟩ (.slice ao x.args.length co)).setCell ⟨w.heap.size + 1, 3, none⟩ (.string x.bind))  := by
            have st : ∀ (U : World) (o : Nat) (u : Value), Kp (fun q => q = w.heap.size + 1) U (U.setCell ⟨w.heap.size + 1, o, none⟩ u) := fun U o u => Kp.store rfl
            exact (((st _ _ _).trans (st _ _ _)).trans (st _ _ _)).trans (st _ _ _)
          have h1 := (R2.out.below stabExpr hV).ag stabExpr (k1.ag (fun q hq e => by have := hq.1; omega))
          exact h1.up (fun q hq => ⟨by have := hq.1; omega, by have h2 := hq.2; have h3 := hV.size; have h4 := k1.size; omega⟩)
        · have h1 := B2.out.trans (hV.mono B2.out.size)
          exact (((h1.setCell (show w.heap.size ≤ w.heap.size + 1 from Nat.le_succ _) _).setCell (show w.heap.size ≤ w.heap.size + 1 from Nat.le_succ _) _).setCell (show w.heap.size ≤ w.heap.size + 1 from Nat.le_succ _) _).setCell (show w.heap.size ≤ w.heap.size + 1 from Nat.le_succ _) _
      obtain ⟨p0, p1, p3⟩ := HK0.out wr (Below.refl _ _)
      clear HK1 Q0 Q1 R2 B2 HW HR
      go_upto_region 7 with fail
      generalize htx : x.text = tx at *
      generalize hbx : x.bind = bx at *
      have HTx : Hid (x.text = tx) := htx
      have HBx : Hid (x.bind = bx) := hbx
      clear htx hbx
      go_region_held3 (fun V => V.cell? ⟨w.heap.size, 0, none⟩ = some (.int .i64 x.kind) ∧ V.cell? ⟨w.heap.size, 1, none⟩ = some (.string tx) ∧ V.cell? ⟨w.heap.size, 3, none⟩ = some (.string bx))
        ((first | (with_reducible exact HK0.out _ BA) | (with_reducible exact HK0.out _ BB) | (with_reducible exact HK2.out _ _ _ _ _ BA) | (with_reducible exact HK2.out _ _ _ _ _ BB) | go_keep))
        ((first
          | (go_at_call 31; refine (HCt.out _).mono ?_; rintro e wa ⟨rfl, hba⟩; have BA : Below wr.heap.size wr wa := (by first | exact bel_of_drew hba | exact BB.trans (hba.mono BB.size)); obtain ⟨⟨ya0, ya1, ya2, ya3⟩, fa0, fa1, fa2, fa3⟩ := HY.out _ BA)
          | (go_at_call 31; refine (HCb.out _).mono ?_; rintro e wb ⟨rfl, hbb⟩; have BB : Below wr.heap.size wr wb := (by first | exact bel_of_drew hbb | exact BA.trans (hbb.mono BA.size)); obtain ⟨⟨yb0, yb1, yb2, yb3⟩, fb0, fb1, fb2, fb3⟩ := HY.out _ BB)))
      obtain ⟨V', hV', z1, z2, z3⟩ := HEnd.out wb BB
      have HZ2 : Hid _ := z2
      have HZ3 : Hid _ := z3
      have y0 : V'.cell? ⟨w.heap.size + 1, 0, none⟩ = _ := cell_block z1 rfl
      have y1 : V'.cell? ⟨w.heap.size + 1, 1, none⟩ = _ := cell_block z1 rfl
      have y2 : V'.cell? ⟨w.heap.size + 1, 2, none⟩ = _ := cell_block z1 rfl
      have y3 : V'.cell? ⟨w.heap.size + 1, 3, none⟩ = _ := cell_block z1 rfl
      rw [← hV']
      clear z1 z2 z3
      go_wp2
      refine bodyPost_ret (by simp [results, Tryz.results75, go_sem, y0, y1, y2, y3]; try rfl) rfl ?_
      exact ⟨_, by rw [HTx.out, HBx.out], HZ2.out, HZ3.out⟩

end Go.Proofs.YtnfekjpchenfpaaGreatDoor

namespace Go.Proofs.YtnfekjpchenfpaaGreatDoor
open Go.RowKit
set_option linter.unusedVariables false

theorem RuleF.slices {F : Nat → Prop} {w : World} {o p : Value} {x : RuleD} (h : RuleF F w [.string x.name, o, p] x) : ∃ a c a' c', o = .slice a x.params.length c ∧ p = .slice a' x.alts.length c' := by
  obtain ⟨v, u, Fp, Fa, e, h1, h2, h3, _⟩ := h
  cases e
  obtain ⟨a, c, e1⟩ := own_shape15 h1
  obtain ⟨a', c', e2⟩ := h3.slice
  exact ⟨a, c, a', c', e1, e2⟩
set_option maxHeartbeats 3200000 in
set_option maxRecDepth 100000 in
theorem eachSym_any (v : Value) (xs : List (SymD)) (w : World) (hz : rowTot symTot xs ≤ 1048576) (h : RowC 4 SymE w v xs) :
    Calls Tryz.prog 74 #[v, .func (.func 75) #[] #[]] w fun e w' => ∃ o, e = .returned o ∧ RowF 4 61 SymF (Nw w.heap.size w'.heap.size) o xs w' ∧ Below w.heap.size w w' := by
  obtain ⟨i0, hi, hz0, hz1, hz2⟩ := info_parts Tryz.infoSym
  have hn := rowTot_len symTot xs
  have HTz : Hid (∀ i (h : i < xs.length), symTot xs[i] ≤ 1048576) := fun i hi => by have := rowTot_mem symTot (List.getElem_mem hi); omega
  have HR : Hid (RowC 4 SymE w v xs) := h
  obtain ⟨a, cap, rfl⟩ := h.slice
  clear h
  go_enter Tryz.func74, Tryz.ntmps74
  go_wp2_with (at_make; refine wpList_make_own _ rfl _ _ 56 rfl w.heap.size 61 i0 _ 4 Tryz.underlying56 hi hz0 hz1 .i64 .i64 _ xs.length rfl rfl rfl (by rw [hz2]; omega) (by unfold maxLen; omega) (Nat.le_refl _) ?_; intro w1 hown hg1)
  have O1 : Hid (RowF 4 61 SymF (Nw w.heap.size w1.heap.size) (.slice (some ⟨w.heap.size, 0, none⟩) 0 xs.length) (xs.take 0) w1) := RowF.made hown ⟨Nat.le_refl _, (World.ownsRow.lt hown _ rfl).2⟩
  have B1 : Hid (Below w.heap.size w w1) := (Below.refl _ _).grown hg1 (Nat.le_refl _) (fun k h => by cases h)
  clear hown hg1
  go_loopw [5, 13] (fun ov iv wr => ∃ k : Nat, iv = .int .i64 k ∧ k ≤ xs.length ∧ RowF 4 61 SymF (Nw w.heap.size wr.heap.size) ov (xs.take k) wr ∧ Below w.heap.size w wr) (fun _ iv _ => xs.length - (intOf iv).toNat)
  case atStart => exact ⟨0, rfl, Nat.zero_le _, O1.out, B1.out⟩
  case round =>
    clear O1 B1
    obtain ⟨k, rfl, hk, hrow, hb⟩ := hrel
    have HW : Hid (RowF 4 61 SymF (Nw w.heap.size wr.heap.size) u5 (xs.take k) wr) := hrow
    have HB : Hid (Below w.heap.size w wr) := hb
    clear hrow hb
    by_cases hlt : k < xs.length
    · obtain ⟨b, off, vs, rfl, _, hc, hE⟩ := (RowC.below SymE_stable HR.out HB.out).at hlt
      obtain ⟨r0, rfl, hh0⟩ := hE
      have n0 : wr.cell? ⟨b, off + k * 4, none⟩ = some (.int .i64 xs[k].kind) := by have h := hc 0 (by simp); exact h
      have n1 : wr.cell? ⟨b, off + k * 4 + 1, none⟩ = some (.string xs[k].text) := by have h := hc 1 (by simp); exact h
      have n2 : wr.cell? ⟨b, off + k * 4 + 2, none⟩ = some (r0) := by have h := hc 2 (by simp); exact h
      have n3 : wr.cell? ⟨b, off + k * 4 + 3, none⟩ = some (.string xs[k].bind) := by have h := hc 3 (by simp); exact h
      have HT : Hid (∀ W, Below wr.heap.size wr W → _) := fun W hW => clonedSym_any r0 xs[k] W (HTz.out k hlt) (RowC.below ExprE_stable hh0 hW)
      obtain ⟨aa0, ca0, rfl⟩ := hh0.slice
      clear hc hh0
      have hkl : (xs.take k).length = k := by rw [List.length_take]; omega
      obtain ⟨cs, hcs, hAdd⟩ := HW.out.add stabSym HB.out.size (Nat.le_refl _)
      rw [hkl] at hcs hAdd
      have HAdd : Hid (_) := hAdd
      have HNx : Hid (xs.take (k + 1) = xs.take k ++ [xs[k]]) := List.take_succ_eq_append_getElem hlt
      have BX : Hid (Below wr.heap.size wr (wr.alloc (.cells #[.int .i64 xs[k].kind, .string xs[k].text, .slice aa0 xs[k].args.length ca0, .string xs[k].bind] 61))) := (Below.refl _ _).alloc (Nat.le_refl _) _
      have HCs : Hid (_) := hcs
      have i4 : (k : Int) < (xs.length : Int) := by omega
      have HLt : Hid (∀ q, u5.ownBlock = some q → w.heap.size ≤ q) := fun q hq => (HW.out.lt q hq).1.1
      clear hcs hAdd HW hkl
      go_wp2_with fail
      refine (HT.out _ BX.out).mono ?_
      rintro e w2 ⟨o2, rfl, ho2, hb2⟩
      obtain ⟨ao, co, rfl⟩ := ho2.slice
      have B2 : Hid (Below wr.heap.size wr w2) := BX.out.trans (hb2.mono BX.out.size)
      have E2 : Hid (SymF (Nw wr.heap.size w2.heap.size) w2 [.int .i64 xs[k].kind, .string xs[k].text, .slice ao xs[k].args.length co, .string xs[k].bind] xs[k]) := ⟨_, rfl, ho2.up (fun q hq => nw_up BX.out.size (Nat.le_refl _) hq)⟩
      have O2 : Hid (_) := own_below HCs.out B2.out
      have BB : Hid (Below w.heap.size w w2) := HB.out.trans (B2.out.mono HB.out.size)
      clear hb2 ho2 HT BX HCs
      go_wp2_with (at_builtin; refine wpList_append_own_at _ rfl _ _ 56 rfl 0 61 i0 _ 4 64 Tryz.underlying56 hi hz0 hz1 hz2 rfl (by decide) _ _ _ rfl (World.ownsRow.alloc O2.out _) ⟨_, 0, none⟩ 1 1 [.int .i64 xs[k].kind, .string xs[k].text, .slice ao xs[k].args.length co, .string xs[k].bind] rfl rfl (cells_new _ _ _) (by intro u hu; simp only [List.mem_cons, List.not_mem_nil, or_false] at hu; rcases hu with rfl | rfl | rfl | rfl <;> rfl) (by unfold maxLen; omega) (by omega) (Nat.zero_le _) ?_)
      intro v5 w5 hown5 hgr5 _ hat5
      obtain ⟨a5, c5, rfl⟩ := own_shape15 hown5
      have J5 : Hid (_) := HAdd.out w2 w5 _ _ _ xs[k] rfl B2.out E2.out hown5 hgr5 (hat_of hat5)
      have B5 : Hid (Below w.heap.size w w5) := (BB.out.alloc BB.out.size _).grown hgr5 (by have := BB.out.size; simp; omega) HLt.out
      clear hown5 hgr5 hat5
      go_wp2
      go_roundw
      case rel => exact ⟨k + 1, by go_num, by omega, by rw [HNx.out]; exact J5.out, B5.out⟩
      case measure => simp [intOf]; omega
    · obtain rfl : k = xs.length := by omega
      rw [List.take_of_length_le (Nat.le_refl _)] at HW
      have i4 : ¬ (xs.length : Int) < (xs.length : Int) := by omega
      go_wp2
      go_ret
      exact ⟨_, rfl, HW.out, HB.out⟩

set_option maxHeartbeats 1600000 in
set_option maxRecDepth 100000 in
theorem clonedAlt_any (r0 : Value) (x : List SymD) (w : World) (hz : altTot x ≤ 1048576) (h : RowC 4 SymE w r0 x) :
    Calls Tryz.prog 48 #[.agg #[r0]] w fun e w' => ∃ o, e = .returned (.agg #[o]) ∧ RowF 4 61 SymF (Nw w.heap.size w'.heap.size) o x w' ∧ Below w.heap.size w w' := by
  obtain ⟨a, c, rfl⟩ := h.slice
  have hBa : Below w.heap.size w (w.alloc (.cells #[.slice a x.length c] 58)) := (Below.refl _ _).alloc (Nat.le_refl _) _
  have BW : Hid (Below w.heap.size w ((w.alloc (.cells #[.slice a x.length c] 58)).alloc (.cells #[.slice none 0 0] 58))) := hBa.alloc hBa.size _
  have P1 : Hid (((w.alloc (.cells #[.slice a x.length c] 58)).alloc (.cells #[.slice none 0 0] 58)).heap[w.heap.size + 1]? = some (.cells #[.slice none 0 0] 58)) := by
    have h := heap_alloc_new (w.alloc (.cells #[.slice a x.length c] 58)) (.cells #[.slice none 0 0] 58)
    rwa [show (w.alloc (.cells #[.slice a x.length c] 58)).heap.size = w.heap.size + 1 by simp] at h
  have hE : ((w.alloc (.cells #[.slice a x.length c] 58)).alloc (.cells #[.slice none 0 0] 58)).cell? ⟨w.heap.size, 0, none⟩ = some (.slice a x.length c) := cell_keep (box_at _ _ _ 0 _ rfl) ((Below.refl _ _).alloc (Nat.le_refl _) _)
  have HC : Hid (∀ W, Below w.heap.size w W → _) := fun W hW => eachSym_any (.slice a x.length c) x W (by unfold altTot at hz; exact hz) (RowC.below SymE_stable h hW)
  have HS : Hid (((w.alloc (.cells #[.slice a x.length c] 58)).alloc (.cells #[.slice none 0 0] 58)).heap.size = w.heap.size + 2) := by rw [Hid]; simp
  clear h hz hBa
  go_enter Tryz.func48, Tryz.ntmps48
  go_wp2_with fail
  generalize (w.alloc (.cells #[.slice a x.length c] 58)).alloc (.cells #[.slice none 0 0] 58) = W0 at *
  refine (HC.out _ BW.out).mono ?_
  rintro e w2 ⟨o2, rfl, ho2, hb2⟩
  obtain ⟨ao, co, rfl⟩ := ho2.slice
  have B2 : Hid (Below w.heap.size w w2) := BW.out.trans (hb2.mono BW.out.size)
  have P2 : Hid (w2.heap[w.heap.size + 1]? = some (.cells #[.slice none 0 0] 58)) := (hb2.block _ (by rw [HS.out]; omega)).trans P1.out
  have R2 : Hid (RowF 4 61 SymF (Nw (w.heap.size + 2) w2.heap.size) (.slice ao x.length co) x w2) := by rw [Hid, ← HS.out]; exact ho2
  have y0 : w2.cell? ⟨w.heap.size + 1, 0, none⟩ = some (.slice none 0 0) := cell_block P2.out rfl
  have g0 : w2.frozen? ⟨w.heap.size + 1, 0, none⟩ = false := frozen_block P2.out
  have Q3 : (w2.setCell ⟨w.heap.size + 1, 0, none⟩ (.slice ao x.length co)).heap[w.heap.size + 1]? = some (.cells #[.slice ao x.length co] 58) := block_set P2.out
  have y3 : (w2.setCell ⟨w.heap.size + 1, 0, none⟩ (.slice ao x.length co)).cell? ⟨w.heap.size + 1, 0, none⟩ = some (.slice ao x.length co) := cell_block Q3 rfl
  have HF : Hid (RowF 4 61 SymF (Nw w.heap.size (w2.setCell ⟨w.heap.size + 1, 0, none⟩ (.slice ao x.length co)).heap.size) (.slice ao x.length co) x (w2.setCell ⟨w.heap.size + 1, 0, none⟩ (.slice ao x.length co))) := by
    have h1 := R2.out.ag stabSym ((Kp.store (F := fun q => q = w.heap.size + 1) (w := w2) (o := 0) (u := .slice ao x.length co) rfl).ag (fun q hq e => by have := hq.1; omega))
    exact h1.up (fun q hq => ⟨by have := hq.1; omega, by have := hq.2; simpa [World.setCell] using this⟩)
  have HB : Hid (Below w.heap.size w (w2.setCell ⟨w.heap.size + 1, 0, none⟩ (.slice ao x.length co))) := B2.out.setCell (show w.heap.size ≤ w.heap.size + 1 from Nat.le_succ _) _
  clear hb2 ho2 Q3
  go_wp2
  refine bodyPost_ret (by simp [results, Tryz.results48, go_sem, y3]; try rfl) rfl ?_
  exact ⟨_, rfl, HF.out, HB.out⟩

set_option maxHeartbeats 3200000 in
set_option maxRecDepth 100000 in
theorem eachAlt_any (v : Value) (xs : List (List SymD)) (w : World) (hz : rowTot altTot xs ≤ 1048576) (h : RowC 1 AltE w v xs) :
    Calls Tryz.prog 47 #[v, .func (.func 48) #[] #[]] w fun e w' => ∃ o, e = .returned o ∧ RowF 1 58 AltF (Nw w.heap.size w'.heap.size) o xs w' ∧ Below w.heap.size w w' := by
  obtain ⟨i0, hi, hz0, hz1, hz2⟩ := info_parts Tryz.infoAlt
  have hn := rowTot_len altTot xs
  have HTz : Hid (∀ i (h : i < xs.length), altTot xs[i] ≤ 1048576) := fun i hi => by have := rowTot_mem altTot (List.getElem_mem hi); omega
  have HR : Hid (RowC 1 AltE w v xs) := h
  obtain ⟨a, cap, rfl⟩ := h.slice
  clear h
  go_enter Tryz.func47, Tryz.ntmps47
  go_wp2_with (at_make; refine wpList_make_own _ rfl _ _ 43 rfl w.heap.size 58 i0 _ 1 Tryz.underlying43 hi hz0 hz1 .i64 .i64 _ xs.length rfl rfl rfl (by rw [hz2]; omega) (by unfold maxLen; omega) (Nat.le_refl _) ?_; intro w1 hown hg1)
  have O1 : Hid (RowF 1 58 AltF (Nw w.heap.size w1.heap.size) (.slice (some ⟨w.heap.size, 0, none⟩) 0 xs.length) (xs.take 0) w1) := RowF.made hown ⟨Nat.le_refl _, (World.ownsRow.lt hown _ rfl).2⟩
  have B1 : Hid (Below w.heap.size w w1) := (Below.refl _ _).grown hg1 (Nat.le_refl _) (fun k h => by cases h)
  clear hown hg1
  go_loopw [5, 13] (fun ov iv wr => ∃ k : Nat, iv = .int .i64 k ∧ k ≤ xs.length ∧ RowF 1 58 AltF (Nw w.heap.size wr.heap.size) ov (xs.take k) wr ∧ Below w.heap.size w wr) (fun _ iv _ => xs.length - (intOf iv).toNat)
  case atStart => exact ⟨0, rfl, Nat.zero_le _, O1.out, B1.out⟩
  case round =>
    clear O1 B1
    obtain ⟨k, rfl, hk, hrow, hb⟩ := hrel
    have HW : Hid (RowF 1 58 AltF (Nw w.heap.size wr.heap.size) u5 (xs.take k) wr) := hrow
    have HB : Hid (Below w.heap.size w wr) := hb
    clear hrow hb
    by_cases hlt : k < xs.length
    · obtain ⟨b, off, vs, rfl, _, hc, hE⟩ := (RowC.below AltE_stable HR.out HB.out).at hlt
      obtain ⟨r0, rfl, hh0⟩ := hE
      have n0 : wr.cell? ⟨b, off + k, none⟩ = some (r0) := by have h := hc 0 (by simp); rw [Nat.mul_one] at h; exact h
      have HT : Hid (∀ W, Below wr.heap.size wr W → _) := fun W hW => clonedAlt_any r0 xs[k] W (HTz.out k hlt) (RowC.below SymE_stable hh0 hW)
      obtain ⟨aa0, ca0, rfl⟩ := hh0.slice
      clear hc hh0
      have hkl : (xs.take k).length = k := by rw [List.length_take]; omega
      obtain ⟨cs, hcs, hAdd⟩ := HW.out.add stabAlt HB.out.size (Nat.le_refl _)
      rw [hkl] at hcs hAdd
      have HAdd : Hid (_) := hAdd
      have HNx : Hid (xs.take (k + 1) = xs.take k ++ [xs[k]]) := List.take_succ_eq_append_getElem hlt
      have BX : Hid (Below wr.heap.size wr (wr.alloc (.cells #[.slice aa0 xs[k].length ca0] 58))) := (Below.refl _ _).alloc (Nat.le_refl _) _
      have HCs : Hid (_) := hcs
      have i4 : (k : Int) < (xs.length : Int) := by omega
      have HLt : Hid (∀ q, u5.ownBlock = some q → w.heap.size ≤ q) := fun q hq => (HW.out.lt q hq).1.1
      clear hcs hAdd HW hkl
      go_wp2_with fail
      refine (HT.out _ BX.out).mono ?_
      rintro e w2 ⟨o2, rfl, ho2, hb2⟩
      obtain ⟨ao, co, rfl⟩ := ho2.slice
      have B2 : Hid (Below wr.heap.size wr w2) := BX.out.trans (hb2.mono BX.out.size)
      have E2 : Hid (AltF (Nw wr.heap.size w2.heap.size) w2 [.slice ao xs[k].length co] xs[k]) := ⟨_, rfl, ho2.up (fun q hq => nw_up BX.out.size (Nat.le_refl _) hq)⟩
      have O2 : Hid (_) := own_below HCs.out B2.out
      have BB : Hid (Below w.heap.size w w2) := HB.out.trans (B2.out.mono HB.out.size)
      clear hb2 ho2 HT BX HCs
      go_wp2_with (at_builtin; refine wpList_append_own_at _ rfl _ _ 43 rfl 0 58 i0 _ 1 24 Tryz.underlying43 hi hz0 hz1 hz2 rfl (by decide) _ _ _ rfl (World.ownsRow.alloc O2.out _) ⟨_, 0, none⟩ 1 1 [.slice ao xs[k].length co] rfl rfl (cells_new _ _ _) (by intro u hu; simp only [List.mem_cons, List.not_mem_nil, or_false] at hu; subst hu; rfl) (by unfold maxLen; omega) (by omega) (Nat.zero_le _) ?_)
      intro v5 w5 hown5 hgr5 _ hat5
      obtain ⟨a5, c5, rfl⟩ := own_shape15 hown5
      have J5 : Hid (_) := HAdd.out w2 w5 _ _ _ xs[k] rfl B2.out E2.out hown5 hgr5 (hat_of hat5)
      have B5 : Hid (Below w.heap.size w w5) := (BB.out.alloc BB.out.size _).grown hgr5 (by have := BB.out.size; simp; omega) HLt.out
      clear hown5 hgr5 hat5
      go_wp2
      go_roundw
      case rel => exact ⟨k + 1, by go_num, by omega, by rw [HNx.out]; exact J5.out, B5.out⟩
      case measure => simp [intOf]; omega
    · obtain rfl : k = xs.length := by omega
      rw [List.take_of_length_le (Nat.le_refl _)] at HW
      have i4 : ¬ (xs.length : Int) < (xs.length : Int) := by omega
      go_wp2
      go_ret
      exact ⟨_, rfl, HW.out, HB.out⟩

end Go.Proofs.YtnfekjpchenfpaaGreatDoor
