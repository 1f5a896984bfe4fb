/- The laws' helpers on grammars: one is the same as its like (printed by mk/gkit.py). -/
import Derived.Test.YtpiajljmjhkdoaaGData
import Derived.Test.YtpiajljmjhkdoaaXKit3
namespace Go.Proofs.Ytpiajljmjhkdoaa
open Go.RowKit

theorem geqStringS (u v : Value) (xs : List ByteArray) (w : World) (hz : rowTot ByteArray.size xs ≤ 1048576) (h : SRow w u xs) (h' : SRow w v xs) :
    Calls Try.prog 42 #[u, v] w fun e w' => e = .returned (.bool true) ∧ Below w.heap.size w w' := by
  refine (eqStringS_same u v xs w (by have := rowTot_len ByteArray.size xs; omega) h h').mono ?_
  rintro e w' ⟨rfl, q, rfl⟩
  exact ⟨rfl, bel_drewN (Below.refl _ _) q⟩
theorem geqExpr (u v : Value) (x : List NodeD) (w : World) (hz : exprTot x ≤ 1048576) (h : NRow w u x) (h' : NRow w v x) :
    Calls Try.prog 45 #[.agg #[u], .agg #[v]] w fun e w' => e = .returned (.bool true) ∧ Below w.heap.size w w' := by
  have e : exprTot x = x.length + (x.map fun y => y.name.size + y.kids.length).sum := rfl
  refine eqExpr_same u v x w (by omega) (fun y hy => ?_) h h'
  have : y.name.size + y.kids.length ≤ (x.map fun y => y.name.size + y.kids.length).sum := sum_mem (fun y : NodeD => y.name.size + y.kids.length) hy
  omega
theorem gkeep2 {W W' : World} {a0 a1 : Addr} {x0 x1 : Value} (h : W.cell? a0 = some x0 ∧ W.cell? a1 = some x1) (hb : Below W.heap.size W W') : W'.cell? a0 = some x0 ∧ W'.cell? a1 = some x1 :=
  ⟨cell_keep h.1 hb, cell_keep h.2 hb⟩
theorem gkeep6 {W W' : World} {a0 a1 a2 a3 a4 a5 : Addr} {x0 x1 x2 x3 x4 x5 : Value} (h : W.cell? a0 = some x0 ∧ W.cell? a1 = some x1 ∧ W.cell? a2 = some x2 ∧ W.cell? a3 = some x3 ∧ W.cell? a4 = some x4 ∧ W.cell? a5 = some x5) (hb : Below W.heap.size W W') : W'.cell? a0 = some x0 ∧ W'.cell? a1 = some x1 ∧ W'.cell? a2 = some x2 ∧ W'.cell? a3 = some x3 ∧ W'.cell? a4 = some x4 ∧ W'.cell? a5 = some x5 :=
  ⟨cell_keep h.1 hb, cell_keep h.2.1 hb, cell_keep h.2.2.1 hb, cell_keep h.2.2.2.1 hb, cell_keep h.2.2.2.2.1 hb, cell_keep h.2.2.2.2.2 hb⟩
theorem gkeep8 {W W' : World} {a0 a1 a2 a3 a4 a5 a6 a7 : Addr} {x0 x1 x2 x3 x4 x5 x6 x7 : Value} (h : W.cell? a0 = some x0 ∧ W.cell? a1 = some x1 ∧ W.cell? a2 = some x2 ∧ W.cell? a3 = some x3 ∧ W.cell? a4 = some x4 ∧ W.cell? a5 = some x5 ∧ W.cell? a6 = some x6 ∧ W.cell? a7 = some x7) (hb : Below W.heap.size W W') : W'.cell? a0 = some x0 ∧ W'.cell? a1 = some x1 ∧ W'.cell? a2 = some x2 ∧ W'.cell? a3 = some x3 ∧ W'.cell? a4 = some x4 ∧ W'.cell? a5 = some x5 ∧ W'.cell? a6 = some x6 ∧ W'.cell? a7 = some x7 :=
  ⟨cell_keep h.1 hb, cell_keep h.2.1 hb, cell_keep h.2.2.1 hb, cell_keep h.2.2.2.1 hb, cell_keep h.2.2.2.2.1 hb, cell_keep h.2.2.2.2.2.1 hb, cell_keep h.2.2.2.2.2.2.1 hb, cell_keep h.2.2.2.2.2.2.2 hb⟩

set_option maxHeartbeats 3200000 in
theorem geqExprS (u v : Value) (xs : List (List NodeD)) (w : World) (hz : rowTot exprTot xs ≤ 1048576) (h : RowC 1 ExprE w u xs) (h' : RowC 1 ExprE w v xs) :
    Calls Try.prog 40 #[u, v] w fun e w' => e = .returned (.bool true) ∧ Below w.heap.size w w' := by
  have HX : Hid (RowC 1 ExprE w u xs) := h
  have HY : Hid (RowC 1 ExprE w v xs) := h'
  have hn := rowTot_len exprTot xs
  obtain ⟨a, cap, rfl⟩ := h.slice
  obtain ⟨a', cap', rfl⟩ := h'.slice
  clear h h'
  go_enter Try.func40, Try.ntmps40
  go_wp2
  go_loopw [5] (fun iv wr => ∃ k : Nat, iv = .int .i64 k ∧ k ≤ xs.length ∧ Below w.heap.size w wr) (fun iv _ => xs.length - (intOf iv).toNat)
  case atStart => exact ⟨0, rfl, Nat.zero_le _, Below.refl _ _⟩
  case round =>
    obtain ⟨k, rfl, hk, hb⟩ := hrel
    have HB : Hid (Below w.heap.size w wr) := hb
    have HXr : Hid (RowC 1 ExprE wr (.slice a xs.length cap) xs) := RowC.below ExprE_stable HX.out hb
    have HYr : Hid (RowC 1 ExprE wr (.slice a' xs.length cap') xs) := RowC.below ExprE_stable HY.out hb
    clear hb
    by_cases hlt : k < xs.length
    · obtain ⟨b, off, vs, rfl, _, hc, hE⟩ := HXr.out.at hlt
      obtain ⟨b', off', vs', rfl, _, hc', hE'⟩ := HYr.out.at hlt
      obtain ⟨r0, rfl, hh0⟩ := hE
      obtain ⟨u0, rfl, gg0⟩ := hE'
      have n0 : wr.cell? ⟨b, off + k, none⟩ = some (r0) := by have h := hc 0 (by simp); rw [Nat.mul_one] at h; exact h
      have m0 : wr.cell? ⟨b', off' + k, none⟩ = some (u0) := by have h := hc' 0 (by simp); rw [Nat.mul_one] at h; exact h
      have i4 : (k : Int) < (xs.length : Int) := by omega
      have HE : Hid (_) := geqExpr r0 u0 xs[k] wr.drew (by have := rowTot_mem exprTot (List.getElem_mem hlt); omega) (hh0.below (bel_drewN (Below.refl _ _) 1)) (gg0.below (bel_drewN (Below.refl _ _) 1))
      obtain ⟨aa0, ca0, rfl⟩ := hh0.slice
      obtain ⟨ba0, da0, rfl⟩ := gg0.slice
      clear hc hc' hh0 gg0
      go_wp2
      go_region_held3 (fun W => W.cell? ⟨b, off + k, none⟩ = some (.slice aa0 xs[k].length ca0) ∧ W.cell? ⟨b', off' + k, none⟩ = some (.slice ba0 xs[k].length da0))
        ((first | exact gkeep2 (by assumption) hb2 | go_keep))
        ((first | (go_at_call 45; refine Calls.mono HE.out ?_; rintro e w2 ⟨rfl, hb2⟩)))
      have HB2 : Hid (Below w.heap.size w w2) := HB.out.trans ((bel_of_drew hb2).mono HB.out.size)
      clear hb2
      go_wp2
      go_roundw
      case rel => exact ⟨k + 1, by go_num, by omega, HB2.out⟩
      case measure => simp [intOf]; omega
    · obtain rfl : k = xs.length := by omega
      go_wp2
      go_ret
      exact ⟨rfl, HB.out⟩








end Go.Proofs.Ytpiajljmjhkdoaa
