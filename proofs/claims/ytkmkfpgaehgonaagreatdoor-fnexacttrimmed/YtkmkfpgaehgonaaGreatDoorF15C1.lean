/- The program's clones of an expression and of a sym. -/
import Derived.Test.YtkmkfpgaehgonaaGreatDoorF15TO
namespace Go.Proofs.YtkmkfpgaehgonaaGreatDoor
open Go.RowKit
set_option linter.unusedVariables false

theorem four_node15 (a b : Int) (s : ByteArray) (o : Option Addr) (l c : Nat) : ∀ u ∈ [Value.int .i64 a, .int .i64 b, .string s, .slice o l c], u.oneCell' = true := by
  intro u hu
  simp only [List.mem_cons, List.not_mem_nil, or_false] at hu
  rcases hu with rfl | rfl | rfl | rfl <;> rfl
theorem nodeF_of {B H : Nat} {w : World} {v : Value} {x : NodeD} {C : Nat} (h : OwnZ C v x.kids w) (hC : B ≤ C) (hH : w.heap.size ≤ H) : NodeF (Nw B H) w [.int .i64 x.op, .int .i64 x.num, .string x.name, v] x :=
  ⟨v, rfl, World.ownsRow.mono h (Nat.zero_le _), fun k hk => ⟨Nat.le_trans hC (World.ownsRow.lt h k hk).1, Nat.lt_of_lt_of_le (World.ownsRow.lt h k hk).2 hH⟩⟩

set_option maxHeartbeats 3200000 in
set_option maxRecDepth 100000 in
theorem clonedExpr_any (r0 : Value) (x : List NodeD) (w : World) (hz : exprTot x ≤ 1048576) (h : NRow w r0 x) :
    Calls Tryz.prog 86 #[.agg #[r0]] w fun e w' => ∃ o, e = .returned (.agg #[o]) ∧ RowF 4 90 NodeF (Nw w.heap.size w'.heap.size) o x w' ∧ Below w.heap.size w w' := by
  obtain ⟨i0, hi, hz0, hz1, hz2⟩ := info_parts Tryz.infoNode
  have hxl : x.length ≤ 1048576 := by unfold exprTot nodesTot at hz; omega
  have HTz : Hid (∀ i (h : i < x.length), x[i].name.size ≤ 1048576 ∧ x[i].kids.length ≤ 1048576) := fun i hi => by
    have h1 := sum_mem (fun y : NodeD => y.name.size + y.kids.length) (List.getElem_mem hi)
    have e : exprTot x = x.length + (x.map fun y => y.name.size + y.kids.length).sum := rfl
    omega
  obtain ⟨a, c, rfl⟩ := h.slice
  have hBa : Below w.heap.size w (w.alloc (.cells #[.slice a x.length c] 88)) := (Below.refl _ _).alloc (Nat.le_refl _) _
  have BW : Hid (Below w.heap.size w ((w.alloc (.cells #[.slice a x.length c] 88)).alloc (.cells #[.slice none 0 0] 88))) := hBa.alloc hBa.size _
  have P1 : Hid (((w.alloc (.cells #[.slice a x.length c] 88)).alloc (.cells #[.slice none 0 0] 88)).heap[w.heap.size + 1]? = some (.cells #[.slice none 0 0] 88)) := by
    have h := heap_alloc_new (w.alloc (.cells #[.slice a x.length c] 88)) (.cells #[.slice none 0 0] 88)
    rwa [show (w.alloc (.cells #[.slice a x.length c] 88)).heap.size = w.heap.size + 1 by simp] at h
  have hE : ((w.alloc (.cells #[.slice a x.length c] 88)).alloc (.cells #[.slice none 0 0] 88)).cell? ⟨w.heap.size, 0, none⟩ = some (.slice a x.length c) := cell_keep (box_at _ _ _ 0 _ rfl) ((Below.refl _ _).alloc (Nat.le_refl _) _)
  have HR : Hid (NRow ((w.alloc (.cells #[.slice a x.length c] 88)).alloc (.cells #[.slice none 0 0] 88)) (.slice a x.length c) x) := h.below BW.out
  have HS : Hid (((w.alloc (.cells #[.slice a x.length c] 88)).alloc (.cells #[.slice none 0 0] 88)).heap.size = w.heap.size + 2) := by rw [Hid]; simp
  have EA : Hid (∀ W0 : World, W0.heap.size = w.heap.size + 2 → RowF 4 90 NodeF (Nw W0.heap.size (W0.alloc (.cells #[] 90)).heap.size) (.slice (some ⟨W0.heap.size, 0, none⟩) 0 0) (x.take 0) (W0.alloc (.cells #[] 90))) := fun W0 _ => by
    have hm := World.ownsRow_made (base := W0.heap.size) W0 #[] 0 (e := 90) (size := 4) (Nat.le_refl _) (by decide) rfl
    exact RowF.made hm ⟨Nat.le_refl _, by simp⟩
  clear h hz hBa
  go_enter Tryz.func86, Tryz.ntmps86
  go_wp2_with fail
  generalize (w.alloc (.cells #[.slice a x.length c] 88)).alloc (.cells #[.slice none 0 0] 88) = W0 at *
  have O1 : Hid (_) := EA.out W0 HS.out
  have B1 : Hid (Below W0.heap.size W0 (W0.alloc (.cells #[] 90))) := (Below.refl _ _).alloc (Nat.le_refl _) _
  have hE1 := cell_keep hE B1.out
  clear EA
  go_wp2
  go_loopw [3, 10] (fun ov iv wr => ∃ k : Nat, iv = .int .i64 k ∧ k ≤ x.length ∧ RowF 4 90 NodeF (Nw W0.heap.size wr.heap.size) ov (x.take k) wr ∧ Below W0.heap.size W0 wr) (fun _ iv _ => x.length - (intOf iv).toNat)
  case atStart => exact ⟨0, rfl, Nat.zero_le _, by rw [HS.out] at O1 ⊢; exact O1.out, B1.out⟩
  case round =>
    clear O1 B1 hE1 hE
    obtain ⟨k, rfl, hk, hrow, hb⟩ := hrel
    have HW : Hid (RowF 4 90 NodeF (Nw W0.heap.size wr.heap.size) u3 (x.take k) wr) := hrow
    have HB : Hid (Below W0.heap.size W0 wr) := hb
    clear hrow hb
    by_cases hlt : k < x.length
    · obtain ⟨b, off, kv, rfl, n0, n1, n2, n3, hkr⟩ := (HR.out.below HB.out).at hlt
      obtain ⟨ka, kc, rfl⟩ := hkr.slice
      obtain ⟨hnz, hkz⟩ := HTz.out k hlt
      have BX : Hid (Below wr.heap.size wr (wr.alloc (.cells #[.int .i64 x[k].op, .int .i64 x[k].num, .string x[k].name, .slice ka x[k].kids.length kc] 90))) := (Below.refl _ _).alloc (Nat.le_refl _) _
      have HX0 : Hid ((wr.alloc (.cells #[.int .i64 x[k].op, .int .i64 x[k].num, .string x[k].name, .slice ka x[k].kids.length kc] 90)).heap[wr.heap.size]? = some (.cells #[.int .i64 x[k].op, .int .i64 x[k].num, .string x[k].name, .slice ka x[k].kids.length kc] 90)) := heap_alloc_new _ _
      have HKS : Hid (∀ V : World, V.heap[wr.heap.size]? = some (.cells #[.int .i64 x[k].op, .int .i64 x[k].num, .string x[k].name, .slice ka x[k].kids.length kc] 90) → V.cell? ⟨wr.heap.size, 0, none⟩ = some (.int .i64 x[k].op) ∧ V.cell? ⟨wr.heap.size, 1, none⟩ = some (.int .i64 x[k].num) ∧ V.cell? ⟨wr.heap.size, 2, none⟩ = some (.string x[k].name) ∧ V.cell? ⟨wr.heap.size, 3, none⟩ = some (.slice ka x[k].kids.length kc)) := fun V hV =>
        ⟨cell_block hV rfl, cell_block hV rfl, cell_block hV rfl, cell_block hV rfl⟩
      have HCn : Hid (∀ W, _) := fun W => cloneS x[k].name W hnz
      have HK : Hid (∀ W, Below wr.heap.size wr W → _) := fun W hW => cloneI_any (.slice ka x[k].kids.length kc) x[k].kids W hkz (hkr.below hW)
      have hkl : (x.take k).length = k := by rw [List.length_take]; omega
      obtain ⟨cs, hcs, hAdd⟩ := HW.out.add stabNode HB.out.size (Nat.le_refl _)
      rw [hkl] at hcs hAdd
      have HAdd : Hid (_) := hAdd
      have HCs : Hid (_) := hcs
      have HLt : Hid (∀ q, u3.ownBlock = some q → W0.heap.size ≤ q) := fun q hq => (HW.out.lt q hq).1.1
      have HLt2 : Hid (∀ q, u3.ownBlock = some q → q < wr.heap.size) := fun q hq => (HW.out.lt q hq).2
      have HSz : Hid (wr.heap.size < (wr.alloc (.cells #[.int .i64 x[k].op, .int .i64 x[k].num, .string x[k].name, .slice ka x[k].kids.length kc] 90)).heap.size) := by rw [Hid]; simp
      have HNx : Hid (x.take (k + 1) = x.take k ++ [x[k]]) := List.take_succ_eq_append_getElem hlt
      have HNd : Hid (∀ (C H : Nat) (W : World) (v : Value), OwnZ C v x[k].kids W → wr.heap.size ≤ C → W.heap.size ≤ H → NodeF (Nw wr.heap.size H) W [.int .i64 x[k].op, .int .i64 x[k].num, .string x[k].name, v] x[k]) := fun C H W v h1 h2 h3 => nodeF_of h1 h2 h3
      have i4 : (k : Int) < (x.length : Int) := by omega
      clear hcs hAdd HW hkl hkr hnz hkz
      generalize x[k] = y at *
      generalize y.kids = ks at *
      generalize y.name = nm at *
      go_upto_region 5 with fail
      generalize hwb : wr.alloc (.cells #[.int .i64 y.op, .int .i64 y.num, .string nm, .slice ka ks.length kc] 90) = wb at *
      generalize y.op = op at *
      generalize y.num = num at *
      obtain ⟨p0, p1, p2, p3⟩ := HKS.out wb HX0.out
      clear hwb
      go_region_held3 (fun V => V.cell? ⟨wr.heap.size, 0, none⟩ = some (.int .i64 op) ∧ V.cell? ⟨wr.heap.size, 1, none⟩ = some (.int .i64 num) ∧ V.cell? ⟨wr.heap.size, 2, none⟩ = some (.string nm) ∧ V.cell? ⟨wr.heap.size, 3, none⟩ = some (.slice ka ks.length kc))
        ((first | exact HKS.out _ X8 | exact HKS.out _ XK | exact HKS.out _ XC | go_keep))
        ((first
          | (go_at_call 39; refine (HCn.out _).mono ?_; rintro e wc ⟨rfl, hbc⟩; have BC : Below wb.heap.size wb wc := (by first | exact bel_of_drew hbc | exact BK.trans (hbc.mono BK.size)); have XC := (BC.block _ HSz.out).trans HX0.out)
          | (go_at_call 113; refine (HK.out _ (by first | exact BX.out.trans (BC.mono BX.out.size) | exact bel_drew15 BX.out)).mono ?_; rintro e wk ⟨ok, rfl, hok, hbk⟩; obtain ⟨ak, ck, hak⟩ := own_shape15 hok; subst hak; have BK : Below wb.heap.size wb wk := (by first | exact bel_of_drew hbk | exact BC.trans (hbk.mono BC.size)); have XK := (BK.block _ HSz.out).trans HX0.out)
          | (show ite (Region.wanted (Oper.mk (some 27) _ _ _ _ _) _ = true) _ _
             have BL := BX.out.trans (BK.mono BX.out.size)
             refine step_append_lies _ (by rfl) _ _ _ (by rfl) 0 90 i0 _ 4 56 Tryz.underlying86 hi hz0 hz1 hz2 rfl (by decide) _ _ _ (by rfl) (World.ownsRow.alloc (own_below HCs.out BL) _) ⟨wk.heap.size, 0, none⟩ 1 1 [.int .i64 op, .int .i64 num, .string nm, .slice ak ks.length ck] (by rfl) (by rfl) (cells_new _ _ _) (four_node15 _ _ _ _ _ _) (by omega) (by unfold maxLen; omega) (by omega) (Nat.zero_le _) _ rfl ?_
             intro g8 cap8 w8 hown8 hgr8 hat8 hlt8
             have J8 := HAdd.out wk w8 _ _ _ y rfl BL (HNd.out _ _ wk _ hok (by first | exact Nat.le_trans BX.out.size BC.size | exact BX.out.size) (Nat.le_refl _)) hown8 hgr8 (hat8.elim (fun h => .inl h.symm) (fun h => .inr (by rw [h]; rfl)))
             have X8 := (hgr8.block wr.heap.size (by have := BK.size; have := HSz.out; simp; omega) (fun e => Nat.lt_irrefl _ (HLt2.out _ e.symm))).trans ((Below.heap_alloc _ _ _ (by have := BK.size; have := HSz.out; omega)).trans XK)
             have B8 := ((HB.out.trans (BL.mono HB.out.size)).alloc (Nat.le_trans HB.out.size BL.size) _).grown hgr8 (by have := HB.out.size; have := BL.size; simp; omega) HLt.out)
          | (show ite (Region.wanted (Oper.mk (some 27) _ _ _ _ _) _ = true) _ _
             have BL := BX.out.trans (BC.mono BX.out.size)
             refine step_append_lies _ (by rfl) _ _ _ (by rfl) 0 90 i0 _ 4 56 Tryz.underlying86 hi hz0 hz1 hz2 rfl (by decide) _ _ _ (by rfl) (World.ownsRow.alloc (own_below HCs.out BL) _) ⟨wc.heap.size, 0, none⟩ 1 1 [.int .i64 op, .int .i64 num, .string nm, .slice ak ks.length ck] (by rfl) (by rfl) (cells_new _ _ _) (four_node15 _ _ _ _ _ _) (by omega) (by unfold maxLen; omega) (by omega) (Nat.zero_le _) _ rfl ?_
             intro g8 cap8 w8 hown8 hgr8 hat8 hlt8
             have J8 := HAdd.out wc w8 _ _ _ y rfl BL (HNd.out _ _ wc _ (own_below hok hbc) BX.out.size (Nat.le_refl _)) hown8 hgr8 (hat8.elim (fun h => .inl h.symm) (fun h => .inr (by rw [h]; rfl)))
             have X8 := (hgr8.block wr.heap.size (by have := BC.size; have := HSz.out; simp; omega) (fun e => Nat.lt_irrefl _ (HLt2.out _ e.symm))).trans ((Below.heap_alloc _ _ _ (by have := BC.size; have := HSz.out; omega)).trans XC)
             have B8 := ((HB.out.trans (BL.mono HB.out.size)).alloc (Nat.le_trans HB.out.size BL.size) _).grown hgr8 (by have := HB.out.size; have := BL.size; simp; omega) HLt.out)))
      all_goals
        have HJ8 : Hid (_) := J8
        have HB8 : Hid (_) := B8
        clear J8 B8 X8 hown8 hgr8 hat8 hlt8 hok hbc hbk BC BK XC XK HCn HK HAdd HCs HNd HKS HX0 p0 p1 p2 p3
        go_wp2
        go_roundw
        case rel => exact ⟨k + 1, by go_num, by omega, by rw [HNx.out]; exact HJ8.out, HB8.out⟩
        case measure => simp [intOf]; omega
    · obtain rfl : k = x.length := by omega
      rw [List.take_of_length_le (Nat.le_refl _)] at HW
      obtain ⟨ao, co, rfl⟩ := HW.out.slice
      have i4 : ¬ (x.length : Int) < (x.length : Int) := by omega
      have B2 : Hid (Below w.heap.size w wr) := BW.out.trans (HB.out.mono BW.out.size)
      have P2 : Hid (wr.heap[w.heap.size + 1]? = some (.cells #[.slice none 0 0] 88)) := (HB.out.block _ (by rw [HS.out]; omega)).trans P1.out
      have R2 : Hid (RowF 4 90 NodeF (Nw (w.heap.size + 2) wr.heap.size) (.slice ao x.length co) x wr) := by rw [Hid, ← HS.out]; exact HW.out
      have y0 : wr.cell? ⟨w.heap.size + 1, 0, none⟩ = some (.slice none 0 0) := cell_block P2.out rfl
      have g0 : wr.frozen? ⟨w.heap.size + 1, 0, none⟩ = false := frozen_block P2.out
      have Q3 : (wr.setCell ⟨w.heap.size + 1, 0, none⟩ (.slice ao x.length co)).heap[w.heap.size + 1]? = some (.cells #[.slice ao x.length co] 88) := block_set P2.out
      have y3 : (wr.setCell ⟨w.heap.size + 1, 0, none⟩ (.slice ao x.length co)).cell? ⟨w.heap.size + 1, 0, none⟩ = some (.slice ao x.length co) := cell_block Q3 rfl
      have HF : Hid (RowF 4 90 NodeF (Nw w.heap.size (wr.setCell ⟨w.heap.size + 1, 0, none⟩ (.slice ao x.length co)).heap.size) (.slice ao x.length co) x (wr.setCell ⟨w.heap.size + 1, 0, none⟩ (.slice ao x.length co))) := by
        have h1 := R2.out.ag stabNode ((Kp.store (F := fun q => q = w.heap.size + 1) (w := wr) (o := 0) (u := .slice ao x.length co) rfl).ag (fun q hq e => by have := hq.1; omega))
        exact h1.up (fun q hq => ⟨by have := hq.1; omega, by have := hq.2; simpa [World.setCell] using this⟩)
      have HBf : Hid (Below w.heap.size w (wr.setCell ⟨w.heap.size + 1, 0, none⟩ (.slice ao x.length co))) := B2.out.setCell (show w.heap.size ≤ w.heap.size + 1 from Nat.le_succ _) _
      clear Q3 HW
      go_wp2
      refine bodyPost_ret (by simp [results, Tryz.results86, go_sem, y3]; try rfl) rfl ?_
      exact ⟨_, rfl, HF.out, HBf.out⟩

end Go.Proofs.YtkmkfpgaehgonaaGreatDoor
