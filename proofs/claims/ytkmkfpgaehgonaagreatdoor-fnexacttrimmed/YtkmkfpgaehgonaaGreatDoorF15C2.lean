/- The program's clones of rows of syms, alternatives and rules, and of a grammar (printed by mk/clone.py). -/
import Derived.Test.YtkmkfpgaehgonaaGreatDoorF15C5
namespace Go.Proofs.YtkmkfpgaehgonaaGreatDoor
open Go.RowKit
set_option linter.unusedVariables false

theorem RuleF.slices {F : Nat → Prop} {w : World} {o p : Value} {x : RuleD} (h : RuleF F w [.string x.name, o, p] x) : ∃ a c a' c', o = .slice a x.params.length c ∧ p = .slice a' x.alts.length c' := by
  obtain ⟨v, u, Fp, Fa, e, h1, h2, h3, _⟩ := h
  cases e
  obtain ⟨a, c, e1⟩ := own_shape15 h1
  obtain ⟨a', c', e2⟩ := h3.slice
  exact ⟨a, c, a', c', e1, e2⟩
set_option maxHeartbeats 3200000 in
set_option maxRecDepth 100000 in
theorem eachSym_any (v : Value) (xs : List (SymD)) (w : World) (hz : rowTot symTot xs ≤ 1048576) (h : RowC 4 SymE w v xs) :
    Calls Tryz.prog 67 #[v, .func (.func 68) #[] #[]] w fun e w' => ∃ o, e = .returned o ∧ RowF 4 63 SymF (Nw w.heap.size w'.heap.size) o xs w' ∧ Below w.heap.size w w' := by
  obtain ⟨i0, hi, hz0, hz1, hz2⟩ := info_parts Tryz.infoSym
  have hn := rowTot_len symTot xs
  have HTz : Hid (∀ i (h : i < xs.length), symTot xs[i] ≤ 1048576) := fun i hi => by have := rowTot_mem symTot (List.getElem_mem hi); omega
  have HR : Hid (RowC 4 SymE w v xs) := h
  obtain ⟨a, cap, rfl⟩ := h.slice
  clear h
  go_enter Tryz.func67, Tryz.ntmps67
  go_wp2_with (at_make; refine wpList_make_own _ rfl _ _ 58 rfl w.heap.size 63 i0 _ 4 Tryz.underlying58 hi hz0 hz1 .i64 .i64 _ xs.length rfl rfl rfl (by rw [hz2]; omega) (by unfold maxLen; omega) (Nat.le_refl _) ?_; intro w1 hown hg1)
  have O1 : Hid (RowF 4 63 SymF (Nw w.heap.size w1.heap.size) (.slice (some ⟨w.heap.size, 0, none⟩) 0 xs.length) (xs.take 0) w1) := RowF.made hown ⟨Nat.le_refl _, (World.ownsRow.lt hown _ rfl).2⟩
  have B1 : Hid (Below w.heap.size w w1) := (Below.refl _ _).grown hg1 (Nat.le_refl _) (fun k h => by cases h)
  clear hown hg1
  go_loopw [5, 13] (fun ov iv wr => ∃ k : Nat, iv = .int .i64 k ∧ k ≤ xs.length ∧ RowF 4 63 SymF (Nw w.heap.size wr.heap.size) ov (xs.take k) wr ∧ Below w.heap.size w wr) (fun _ iv _ => xs.length - (intOf iv).toNat)
  case atStart => exact ⟨0, rfl, Nat.zero_le _, O1.out, B1.out⟩
  case round =>
    clear O1 B1
    obtain ⟨k, rfl, hk, hrow, hb⟩ := hrel
    have HW : Hid (RowF 4 63 SymF (Nw w.heap.size wr.heap.size) u5 (xs.take k) wr) := hrow
    have HB : Hid (Below w.heap.size w wr) := hb
    clear hrow hb
    by_cases hlt : k < xs.length
    · obtain ⟨b, off, vs, rfl, _, hc, hE⟩ := (RowC.below SymE_stable HR.out HB.out).at hlt
      obtain ⟨r0, rfl, hh0⟩ := hE
      have n0 : wr.cell? ⟨b, off + k * 4, none⟩ = some (.int .i64 xs[k].kind) := by have h := hc 0 (by simp); exact h
      have n1 : wr.cell? ⟨b, off + k * 4 + 1, none⟩ = some (.string xs[k].text) := by have h := hc 1 (by simp); exact h
      have n2 : wr.cell? ⟨b, off + k * 4 + 2, none⟩ = some (r0) := by have h := hc 2 (by simp); exact h
      have n3 : wr.cell? ⟨b, off + k * 4 + 3, none⟩ = some (.string xs[k].bind) := by have h := hc 3 (by simp); exact h
      have HT : Hid (∀ W, Below wr.heap.size wr W → _) := fun W hW => clonedSym_any r0 xs[k] W (HTz.out k hlt) (RowC.below ExprE_stable hh0 hW)
      obtain ⟨aa0, ca0, rfl⟩ := hh0.slice
      clear hc hh0
      have hkl : (xs.take k).length = k := by rw [List.length_take]; omega
      obtain ⟨cs, hcs, hAdd⟩ := HW.out.add stabSym HB.out.size (Nat.le_refl _)
      rw [hkl] at hcs hAdd
      have HAdd : Hid (_) := hAdd
      have HNx : Hid (xs.take (k + 1) = xs.take k ++ [xs[k]]) := List.take_succ_eq_append_getElem hlt
      have BX : Hid (Below wr.heap.size wr (wr.alloc (.cells #[.int .i64 xs[k].kind, .string xs[k].text, .slice aa0 xs[k].args.length ca0, .string xs[k].bind] 63))) := (Below.refl _ _).alloc (Nat.le_refl _) _
      have HCs : Hid (_) := hcs
      have i4 : (k : Int) < (xs.length : Int) := by omega
      have HLt : Hid (∀ q, u5.ownBlock = some q → w.heap.size ≤ q) := fun q hq => (HW.out.lt q hq).1.1
      clear hcs hAdd HW hkl
      go_wp2_with fail
      refine (HT.out _ BX.out).mono ?_
      rintro e w2 ⟨o2, rfl, ho2, hb2⟩
      obtain ⟨ao, co, rfl⟩ := ho2.slice
      have B2 : Hid (Below wr.heap.size wr w2) := BX.out.trans (hb2.mono BX.out.size)
      have E2 : Hid (SymF (Nw wr.heap.size w2.heap.size) w2 [.int .i64 xs[k].kind, .string xs[k].text, .slice ao xs[k].args.length co, .string xs[k].bind] xs[k]) := ⟨_, rfl, ho2.up (fun q hq => nw_up BX.out.size (Nat.le_refl _) hq)⟩
      have O2 : Hid (_) := own_below HCs.out B2.out
      have BB : Hid (Below w.heap.size w w2) := HB.out.trans (B2.out.mono HB.out.size)
      clear hb2 ho2 HT BX HCs
      go_wp2_with (at_builtin; refine wpList_append_own_at _ rfl _ _ 58 rfl 0 63 i0 _ 4 64 Tryz.underlying58 hi hz0 hz1 hz2 rfl (by decide) _ _ _ rfl (World.ownsRow.alloc O2.out _) ⟨_, 0, none⟩ 1 1 [.int .i64 xs[k].kind, .string xs[k].text, .slice ao xs[k].args.length co, .string xs[k].bind] rfl rfl (cells_new _ _ _) (by intro u hu; simp only [List.mem_cons, List.not_mem_nil, or_false] at hu; rcases hu with rfl | rfl | rfl | rfl <;> rfl) (by unfold maxLen; omega) (by omega) (Nat.zero_le _) ?_)
      intro v5 w5 hown5 hgr5 _ hat5
      obtain ⟨a5, c5, rfl⟩ := own_shape15 hown5
      have J5 : Hid (_) := HAdd.out w2 w5 _ _ _ xs[k] rfl B2.out E2.out hown5 hgr5 (hat_of hat5)
      have B5 : Hid (Below w.heap.size w w5) := (BB.out.alloc BB.out.size _).grown hgr5 (by have := BB.out.size; simp; omega) HLt.out
      clear hown5 hgr5 hat5
      go_wp2
      go_roundw
      case rel => exact ⟨k + 1, by go_num, by omega, by rw [HNx.out]; exact J5.out, B5.out⟩
      case measure => simp [intOf]; omega
    · obtain rfl : k = xs.length := by omega
      rw [List.take_of_length_le (Nat.le_refl _)] at HW
      have i4 : ¬ (xs.length : Int) < (xs.length : Int) := by omega
      go_wp2
      go_ret
      exact ⟨_, rfl, HW.out, HB.out⟩

set_option maxHeartbeats 1600000 in
set_option maxRecDepth 100000 in
theorem clonedAlt_any (r0 : Value) (x : List SymD) (w : World) (hz : altTot x ≤ 1048576) (h : RowC 4 SymE w r0 x) :
    Calls Tryz.prog 42 #[.agg #[r0]] w fun e w' => ∃ o, e = .returned (.agg #[o]) ∧ RowF 4 63 SymF (Nw w.heap.size w'.heap.size) o x w' ∧ Below w.heap.size w w' := by
  obtain ⟨a, c, rfl⟩ := h.slice
  have hBa : Below w.heap.size w (w.alloc (.cells #[.slice a x.length c] 60)) := (Below.refl _ _).alloc (Nat.le_refl _) _
  have BW : Hid (Below w.heap.size w ((w.alloc (.cells #[.slice a x.length c] 60)).alloc (.cells #[.slice none 0 0] 60))) := hBa.alloc hBa.size _
  have P1 : Hid (((w.alloc (.cells #[.slice a x.length c] 60)).alloc (.cells #[.slice none 0 0] 60)).heap[w.heap.size + 1]? = some (.cells #[.slice none 0 0] 60)) := by
    have h := heap_alloc_new (w.alloc (.cells #[.slice a x.length c] 60)) (.cells #[.slice none 0 0] 60)
    rwa [show (w.alloc (.cells #[.slice a x.length c] 60)).heap.size = w.heap.size + 1 by simp] at h
  have hE : ((w.alloc (.cells #[.slice a x.length c] 60)).alloc (.cells #[.slice none 0 0] 60)).cell? ⟨w.heap.size, 0, none⟩ = some (.slice a x.length c) := cell_keep (box_at _ _ _ 0 _ rfl) ((Below.refl _ _).alloc (Nat.le_refl _) _)
  have HC : Hid (∀ W, Below w.heap.size w W → _) := fun W hW => eachSym_any (.slice a x.length c) x W (by unfold altTot at hz; exact hz) (RowC.below SymE_stable h hW)
  have HS : Hid (((w.alloc (.cells #[.slice a x.length c] 60)).alloc (.cells #[.slice none 0 0] 60)).heap.size = w.heap.size + 2) := by rw [Hid]; simp
  clear h hz hBa
  go_enter Tryz.func42, Tryz.ntmps42
  go_wp2_with fail
  generalize (w.alloc (.cells #[.slice a x.length c] 60)).alloc (.cells #[.slice none 0 0] 60) = W0 at *
  refine (HC.out _ BW.out).mono ?_
  rintro e w2 ⟨o2, rfl, ho2, hb2⟩
  obtain ⟨ao, co, rfl⟩ := ho2.slice
  have B2 : Hid (Below w.heap.size w w2) := BW.out.trans (hb2.mono BW.out.size)
  have P2 : Hid (w2.heap[w.heap.size + 1]? = some (.cells #[.slice none 0 0] 60)) := (hb2.block _ (by rw [HS.out]; omega)).trans P1.out
  have R2 : Hid (RowF 4 63 SymF (Nw (w.heap.size + 2) w2.heap.size) (.slice ao x.length co) x w2) := by rw [Hid, ← HS.out]; exact ho2
  have y0 : w2.cell? ⟨w.heap.size + 1, 0, none⟩ = some (.slice none 0 0) := cell_block P2.out rfl
  have g0 : w2.frozen? ⟨w.heap.size + 1, 0, none⟩ = false := frozen_block P2.out
  have Q3 : (w2.setCell ⟨w.heap.size + 1, 0, none⟩ (.slice ao x.length co)).heap[w.heap.size + 1]? = some (.cells #[.slice ao x.length co] 60) := block_set P2.out
  have y3 : (w2.setCell ⟨w.heap.size + 1, 0, none⟩ (.slice ao x.length co)).cell? ⟨w.heap.size + 1, 0, none⟩ = some (.slice ao x.length co) := cell_block Q3 rfl
  have HF : Hid (RowF 4 63 SymF (Nw w.heap.size (w2.setCell ⟨w.heap.size + 1, 0, none⟩ (.slice ao x.length co)).heap.size) (.slice ao x.length co) x (w2.setCell ⟨w.heap.size + 1, 0, none⟩ (.slice ao x.length co))) := by
    have h1 := R2.out.ag stabSym ((Kp.store (F := fun q => q = w.heap.size + 1) (w := w2) (o := 0) (u := .slice ao x.length co) rfl).ag (fun q hq e => by have := hq.1; omega))
    exact h1.up (fun q hq => ⟨by have := hq.1; omega, by have := hq.2; simpa [World.setCell] using this⟩)
  have HB : Hid (Below w.heap.size w (w2.setCell ⟨w.heap.size + 1, 0, none⟩ (.slice ao x.length co))) := B2.out.setCell (show w.heap.size ≤ w.heap.size + 1 from Nat.le_succ _) _
  clear hb2 ho2 Q3
  go_wp2
  refine bodyPost_ret (by simp [results, Tryz.results42, go_sem, y3]; try rfl) rfl ?_
  exact ⟨_, rfl, HF.out, HB.out⟩

set_option maxHeartbeats 3200000 in
set_option maxRecDepth 100000 in
theorem eachAlt_any (v : Value) (xs : List (List SymD)) (w : World) (hz : rowTot altTot xs ≤ 1048576) (h : RowC 1 AltE w v xs) :
    Calls Tryz.prog 41 #[v, .func (.func 42) #[] #[]] w fun e w' => ∃ o, e = .returned o ∧ RowF 1 60 AltF (Nw w.heap.size w'.heap.size) o xs w' ∧ Below w.heap.size w w' := by
  obtain ⟨i0, hi, hz0, hz1, hz2⟩ := info_parts Tryz.infoAlt
  have hn := rowTot_len altTot xs
  have HTz : Hid (∀ i (h : i < xs.length), altTot xs[i] ≤ 1048576) := fun i hi => by have := rowTot_mem altTot (List.getElem_mem hi); omega
  have HR : Hid (RowC 1 AltE w v xs) := h
  obtain ⟨a, cap, rfl⟩ := h.slice
  clear h
  go_enter Tryz.func41, Tryz.ntmps41
  go_wp2_with (at_make; refine wpList_make_own _ rfl _ _ 40 rfl w.heap.size 60 i0 _ 1 Tryz.underlying40 hi hz0 hz1 .i64 .i64 _ xs.length rfl rfl rfl (by rw [hz2]; omega) (by unfold maxLen; omega) (Nat.le_refl _) ?_; intro w1 hown hg1)
  have O1 : Hid (RowF 1 60 AltF (Nw w.heap.size w1.heap.size) (.slice (some ⟨w.heap.size, 0, none⟩) 0 xs.length) (xs.take 0) w1) := RowF.made hown ⟨Nat.le_refl _, (World.ownsRow.lt hown _ rfl).2⟩
  have B1 : Hid (Below w.heap.size w w1) := (Below.refl _ _).grown hg1 (Nat.le_refl _) (fun k h => by cases h)
  clear hown hg1
  go_loopw [5, 13] (fun ov iv wr => ∃ k : Nat, iv = .int .i64 k ∧ k ≤ xs.length ∧ RowF 1 60 AltF (Nw w.heap.size wr.heap.size) ov (xs.take k) wr ∧ Below w.heap.size w wr) (fun _ iv _ => xs.length - (intOf iv).toNat)
  case atStart => exact ⟨0, rfl, Nat.zero_le _, O1.out, B1.out⟩
  case round =>
    clear O1 B1
    obtain ⟨k, rfl, hk, hrow, hb⟩ := hrel
    have HW : Hid (RowF 1 60 AltF (Nw w.heap.size wr.heap.size) u5 (xs.take k) wr) := hrow
    have HB : Hid (Below w.heap.size w wr) := hb
    clear hrow hb
    by_cases hlt : k < xs.length
    · obtain ⟨b, off, vs, rfl, _, hc, hE⟩ := (RowC.below AltE_stable HR.out HB.out).at hlt
      obtain ⟨r0, rfl, hh0⟩ := hE
      have n0 : wr.cell? ⟨b, off + k, none⟩ = some (r0) := by have h := hc 0 (by simp); rw [Nat.mul_one] at h; exact h
      have HT : Hid (∀ W, Below wr.heap.size wr W → _) := fun W hW => clonedAlt_any r0 xs[k] W (HTz.out k hlt) (RowC.below SymE_stable hh0 hW)
      obtain ⟨aa0, ca0, rfl⟩ := hh0.slice
      clear hc hh0
      have hkl : (xs.take k).length = k := by rw [List.length_take]; omega
      obtain ⟨cs, hcs, hAdd⟩ := HW.out.add stabAlt HB.out.size (Nat.le_refl _)
      rw [hkl] at hcs hAdd
      have HAdd : Hid (_) := hAdd
      have HNx : Hid (xs.take (k + 1) = xs.take k ++ [xs[k]]) := List.take_succ_eq_append_getElem hlt
      have BX : Hid (Below wr.heap.size wr (wr.alloc (.cells #[.slice aa0 xs[k].length ca0] 60))) := (Below.refl _ _).alloc (Nat.le_refl _) _
      have HCs : Hid (_) := hcs
      have i4 : (k : Int) < (xs.length : Int) := by omega
      have HLt : Hid (∀ q, u5.ownBlock = some q → w.heap.size ≤ q) := fun q hq => (HW.out.lt q hq).1.1
      clear hcs hAdd HW hkl
      go_wp2_with fail
      refine (HT.out _ BX.out).mono ?_
      rintro e w2 ⟨o2, rfl, ho2, hb2⟩
      obtain ⟨ao, co, rfl⟩ := ho2.slice
      have B2 : Hid (Below wr.heap.size wr w2) := BX.out.trans (hb2.mono BX.out.size)
      have E2 : Hid (AltF (Nw wr.heap.size w2.heap.size) w2 [.slice ao xs[k].length co] xs[k]) := ⟨_, rfl, ho2.up (fun q hq => nw_up BX.out.size (Nat.le_refl _) hq)⟩
      have O2 : Hid (_) := own_below HCs.out B2.out
      have BB : Hid (Below w.heap.size w w2) := HB.out.trans (B2.out.mono HB.out.size)
      clear hb2 ho2 HT BX HCs
      go_wp2_with (at_builtin; refine wpList_append_own_at _ rfl _ _ 40 rfl 0 60 i0 _ 1 24 Tryz.underlying40 hi hz0 hz1 hz2 rfl (by decide) _ _ _ rfl (World.ownsRow.alloc O2.out _) ⟨_, 0, none⟩ 1 1 [.slice ao xs[k].length co] rfl rfl (cells_new _ _ _) (by intro u hu; simp only [List.mem_cons, List.not_mem_nil, or_false] at hu; subst hu; rfl) (by unfold maxLen; omega) (by omega) (Nat.zero_le _) ?_)
      intro v5 w5 hown5 hgr5 _ hat5
      obtain ⟨a5, c5, rfl⟩ := own_shape15 hown5
      have J5 : Hid (_) := HAdd.out w2 w5 _ _ _ xs[k] rfl B2.out E2.out hown5 hgr5 (hat_of hat5)
      have B5 : Hid (Below w.heap.size w w5) := (BB.out.alloc BB.out.size _).grown hgr5 (by have := BB.out.size; simp; omega) HLt.out
      clear hown5 hgr5 hat5
      go_wp2
      go_roundw
      case rel => exact ⟨k + 1, by go_num, by omega, by rw [HNx.out]; exact J5.out, B5.out⟩
      case measure => simp [intOf]; omega
    · obtain rfl : k = xs.length := by omega
      rw [List.take_of_length_le (Nat.le_refl _)] at HW
      have i4 : ¬ (xs.length : Int) < (xs.length : Int) := by omega
      go_wp2
      go_ret
      exact ⟨_, rfl, HW.out, HB.out⟩

end Go.Proofs.YtkmkfpgaehgonaaGreatDoor
