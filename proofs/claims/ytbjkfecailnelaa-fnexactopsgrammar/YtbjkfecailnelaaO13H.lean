/- A list of operators of the caller's own: made, and marked. -/
import Derived.Test.YtbjkfecailnelaaOpK
import Derived.Test.YtbjkfecailnelaaMark
import Derived.Test.YtbjkfecailnelaaFrK
namespace Go.Proofs.Ytbjkfecailnelaa
open Go.RowKit
set_option linter.unusedVariables false

set_option maxHeartbeats 3200000 in
set_option maxRecDepth 100000 in
theorem toOpS_own (v : Value) (xs : List OpD) (w : World) (hz : rowTot opTot xs ≤ 1048576) (h : Ops w v xs) :
    Calls Try.prog 6 #[v] w fun e w' => ∃ a c, e = .returned (.slice a xs.length c) ∧ Fresh w.heap.size w' (fun W => Ops W (.slice a xs.length c) xs) ∧ Below w.heap.size w w' ∧ ∃ cs, w'.ownsRow w.heap.size 44 3 (.slice a xs.length c) xs.length cs := by
  obtain ⟨i0, hi, hz0, hz1, hz2⟩ := info_parts Try.infoOp
  have hn := rowTot_len opTot xs
  have HR : Hid (Ops w v xs) := h
  obtain ⟨a, cap, rfl⟩ := h.slice
  clear h
  go_enter Try.func6, Try.ntmps6
  go_wp2_with (at_make; refine wpList_make_full _ rfl _ _ 29 rfl w.heap.size 44 i0 _ 3 Try.underlying29 hi hz0 hz1 .i64 .i64 _ _ xs.length rfl rfl rfl rfl (by rw [hz2]; omega) (by unfold maxLen; omega) (Nat.le_refl _) ?_; intro w1 hown hg1)
  have HO : Hid (RowTo 3 OpE 44 w.heap.size w.heap.size xs 0 w1) := rowTo_start hown
  have HB1 : Hid (Below w.heap.size w w1) := (Below.refl _ _).grown hg1 (Nat.le_refl _) (fun k h => by cases h)
  clear hown hg1
  go_loopw [4] (fun iv wr => ∃ k : Nat, iv = .int .i64 k ∧ k ≤ xs.length ∧ RowTo 3 OpE 44 w.heap.size w.heap.size xs k wr ∧ Below w.heap.size w wr) (fun iv _ => xs.length - (intOf iv).toNat)
  case atStart => exact ⟨0, rfl, Nat.zero_le _, HO.out, HB1.out⟩
  case round =>
    obtain ⟨k, rfl, hk, hrow, hb⟩ := hrel
    have HW : Hid (RowTo 3 OpE 44 w.heap.size w.heap.size xs k wr) := hrow
    have HB : Hid (Below w.heap.size w wr) := hb
    have HRr : Hid (Ops wr (.slice a xs.length cap) xs) := HR.out.below hb
    have hgt : w.heap.size + 1 ≤ wr.heap.size := by
      obtain ⟨cs, ho⟩ := hrow.own
      exact (World.ownsRow.lt ho w.heap.size rfl).2
    clear hb hrow HO HB1
    by_cases hlt : k < xs.length
    · obtain ⟨b, off, rfl, n0, n1, n2⟩ := HRr.out.at hlt
      go_wp2_with fail
      refine (toOp_any xs[k] _).mono ?_
      rintro e w2 ⟨rfl, hb2⟩
      have HB2 : Hid (Below w.heap.size w w2) := HB.out.trans (hb2.mono HB.out.size)
      have HW2 : Hid (RowTo 3 OpE 44 w.heap.size w.heap.size xs k w2) := HW.out.below hb2
      have HE2 : Hid (Fresh (w.heap.size + 1) w2 (fun W => OpE W [.string xs[k].sign, .int .i64 xs[k].level, .bool xs[k].right] xs[k])) := fun W h1 h2 => rfl
      obtain ⟨cs, O2⟩ := HW2.out.own
      obtain ⟨d0, hd0, hf0⟩ := own_cell O2 (k * 3) (by omega)
      obtain ⟨d1, hd1, hf1⟩ := own_cell O2 (k * 3 + 1) (by omega)
      obtain ⟨d2, hd2, hf2⟩ := own_cell O2 (k * 3 + 2) (by omega)
      clear O2 hb2 HW
      go_wp2
      have HN : Hid (RowTo 3 OpE 44 w.heap.size w.heap.size xs (k + 1) (setsW w2 w.heap.size (k * 3) [.string xs[k].sign, .int .i64 xs[k].level, .bool xs[k].right])) := HW2.out.next hlt rfl HE2.out
      have HB3 : Hid (Below w.heap.size w (setsW w2 w.heap.size (k * 3) [.string xs[k].sign, .int .i64 xs[k].level, .bool xs[k].right])) := setsW_below HB2.out (Nat.le_refl _) _ _
      skip
      go_roundw
      case rel => exact ⟨k + 1, by go_num, by omega, HN.out, HB3.out⟩
      case measure => simp [intOf]; omega
    · obtain rfl : k = xs.length := by omega
      have HF : Hid (Fresh w.heap.size wr (fun W => Ops W (.slice (some ⟨w.heap.size, 0, none⟩) xs.length xs.length) xs)) := fun W h1 h2 => ⟨HW.out.done W h1 h2, fun _ _ _ e => by cases e; exact Nat.le_refl _⟩
      have HOw : Hid (_) := HW.out.own
      clear HW
      go_wp2
      go_ret
      exact ⟨_, _, rfl, HF.out, HB.out, HOw.out⟩

theorem grown_three {B : Nat} {e : TypeId} {size : Nat} {w w1 : World} {g n cap j1 j2 j3 : Nat} {xs : List Value} {u1 u2 u3 : Value} (h : w.grownBy w1 (some g)) (ho : (w1.setCell ⟨g, j1, none⟩ u1).ownsRow B e size (.slice (some ⟨g, 0, none⟩) n cap) n xs) :
    w.grownBy (((w1.setCell ⟨g, j1, none⟩ u1).setCell ⟨g, j2, none⟩ u2).setCell ⟨g, j3, none⟩ u3) (some g) := by
  refine ⟨h.os, h.tape, h.output, by have := h.size; simpa [World.setCell] using this, fun j hj hr => ?_⟩
  have hne : j ≠ g := fun e => hr (by rw [e])
  rw [setCell_other _ hne, setCell_other _ hne, setCell_other _ hne]
  exact h.block j hj hr
set_option maxHeartbeats 1600000 in
set_option maxRecDepth 100000 in
theorem markOpS_held (B : Nat) (v : Value) (n : Nat) (cs : List Value) (k0 : Nat) (w : World) (hn : n ≤ 1048576) (h0 : 0 < k0) (h1 : k0 ≤ 1000) (hown : w.ownsRow B 44 3 v n cs) :
    Calls Try.prog 10 #[v, .int .i64 k0] w fun e w' => e = .returned (.int .i64 ((k0 + 3 * n : Nat) : Int)) ∧ w.grownBy w' v.ownBlock := by
  by_cases hz : n = 0
  · subst hz
    obtain ⟨a, cap, rfl⟩ : ∃ a c, v = .slice a 0 c := by
      rcases hown.2 with ⟨rfl, _⟩ | ⟨g, cap, cur, rfl, _⟩
      · exact ⟨_, _, rfl⟩
      · exact ⟨_, _, rfl⟩
    clear hown
    simp only [Nat.mul_zero, Nat.add_zero]
    go_enter Try.func10, Try.ntmps10
    go_wp2
    go_loop [1, 5] (fun kv iv => kv = .int .i64 k0 ∧ iv = .int .i64 0) (fun _ _ => 0)
    case atStart => exact ⟨rfl, rfl⟩
    case round =>
      obtain ⟨rfl, rfl⟩ := hrel
      go_wp2
      go_ret
      exact ⟨rfl, World.grownBy.refl _ _⟩
  · obtain ⟨g, cap, rfl, hBg, hgl⟩ := World.ownsRow.form hown (by omega)
    have HO : Hid (w.ownsRow B 44 3 (.slice (some ⟨g, 0, none⟩) n cap) n cs) := hown
    clear hown
    go_enter Try.func10, Try.ntmps10
    go_wp2
    go_loopw [1, 5] (fun kv iv wr => ∃ i : Nat, kv = .int .i64 ((k0 + 3 * i : Nat) : Int) ∧ iv = .int .i64 i ∧ i ≤ n ∧ (∃ ds, wr.ownsRow B 44 3 (.slice (some ⟨g, 0, none⟩) n cap) n ds) ∧ w.grownBy wr (some g)) (fun _ iv _ => n - (intOf iv).toNat)
    case atStart => exact ⟨0, rfl, rfl, Nat.zero_le _, ⟨_, HO.out⟩, World.grownBy.refl _ _⟩
    case round =>
      obtain ⟨i, rfl, rfl, hi, ⟨ds, hown⟩, hgr⟩ := hrel
      have HW : Hid (wr.ownsRow B 44 3 (.slice (some ⟨g, 0, none⟩) n cap) n ds) := hown
      have HG : Hid (w.grownBy wr (some g)) := hgr
      clear hown hgr
      by_cases hlt : i < n
      · go_wp2_with fail
        refine (mark_any (k0 + 3 * i) _ (by omega) (by omega)).mono ?_
        rintro e w1 ⟨rfl, hb1⟩
        have HO1 : Hid (w1.ownsRow B 44 3 (.slice (some ⟨g, 0, none⟩) n cap) n ds) := own_below HW.out hb1
        obtain ⟨c0, hc0, f0⟩ := own_cell HO1.out (i * 3) (by omega)
        obtain ⟨c1, hc1, f1⟩ := own_cell HO1.out (i * 3 + 1) (by omega)
        obtain ⟨c2, hc2, f2⟩ := own_cell HO1.out (i * 3 + 2) (by omega)
        have HG1 : Hid (w.grownBy w1 (some g)) := ⟨hb1.os.trans HG.out.os, hb1.tape.trans HG.out.tape, hb1.output.trans HG.out.output, Nat.le_trans HG.out.size hb1.size, fun j hj hr => (hb1.block j (Nat.lt_of_lt_of_le hj HG.out.size)).trans (HG.out.block j hj hr)⟩
        clear hb1
        generalize str (markB (k0 + 3 * i)) = T at *
        go_wp2
        go_roundw
        case rel =>
          have s1 := World.ownsRow.stored HO1.out (i * 3) (.string T)
          refine ⟨i + 1, congrArg (Value.int .i64) (by omega), by go_num, by omega, ⟨_, (World.ownsRow.stored (World.ownsRow.stored s1.1 (i * 3 + 1) _).1 (i * 3 + 2) _).1⟩, ?_⟩
          exact grown_three HG1.out s1.1
        case measure => simp [intOf]; omega
      · obtain rfl : i = n := by omega
        clear HO HW
        go_wp2
        go_ret
        exact ⟨rfl, HG.out⟩
end Go.Proofs.Ytbjkfecailnelaa
