/- The laws' helpers on grammars: how great they are (printed by mk/gkit.py). -/
import Derived.Test.YtpiajljmjhkdoaaGData
import Derived.Test.YtpiajljmjhkdoaaXKit
namespace Go.Proofs.Ytpiajljmjhkdoaa
open Go.RowKit

theorem gszStringS (v : Value) (xs : List ByteArray) (left : Int) (w : World) (h0 : 0 ≤ left) (h1 : left ≤ 1048576) (hin : RowInn StrIn xs) (h : SRow w v xs) :
    Calls Try.prog 34 #[v, .int .i64 left] w fun e w' => ∃ r : Int, e = .returned (.int .i64 r) ∧ (r = -1 ∨ (0 ≤ r ∧ r + (rowTot ByteArray.size xs : Nat) = left)) ∧ Below w.heap.size w w' := by
  refine (szStringS_any v xs left w h0 h1 hin.1 hin.2 h).mono ?_
  rintro e w' ⟨r, rfl, hr, rfl⟩
  refine ⟨r, rfl, hr.imp id (fun h => ⟨h.1, ?_⟩), Below.refl _ _⟩
  have := h.2
  have e : rowTot ByteArray.size xs = xs.length + totB xs := rfl
  omega
theorem gszExpr (v : Value) (x : List NodeD) (left : Int) (w : World) (h0 : 0 ≤ left) (h1 : left ≤ 1048576) (hin : ExprIn x) (h : NRow w v x) :
    Calls Try.prog 43 #[.agg #[v], .int .i64 left] w fun e w' => ∃ r : Int, e = .returned (.int .i64 r) ∧ (r = -1 ∨ (0 ≤ r ∧ r + (exprTot x : Nat) = left)) ∧ Below w.heap.size w w' := by
  refine (szExpr_any v x left w h0 h1 ⟨h, hin.1, hin.2⟩).mono ?_
  rintro e w' ⟨r, rfl, hr, hb⟩
  refine ⟨r, rfl, hr.imp id (fun h => ⟨h.1, ?_⟩), hb⟩
  have := h.2
  have e : exprTot x = x.length + totN x := rfl
  omega

set_option maxHeartbeats 1600000 in
theorem gszExprS (v : Value) (xs : List (List NodeD)) (left : Int) (w : World) (h0 : 0 ≤ left) (h1 : left ≤ 1048576) (hin : RowInn ExprIn xs) (h : RowC 1 ExprE w v xs) :
    Calls Try.prog 32 #[v, .int .i64 left] w fun e w' => ∃ r : Int, e = .returned (.int .i64 r) ∧ (r = -1 ∨ (0 ≤ r ∧ r + (rowTot exprTot xs : Nat) = left)) ∧ Below w.heap.size w w' := by
  have HR : Hid (RowC 1 ExprE w v xs) := h
  have HIn : Hid (∀ x ∈ xs, ExprIn x) := hin.2
  have hm := hin.1
  obtain ⟨a, cap, rfl⟩ := h.slice
  clear h hin
  unfold maxLen at hm
  by_cases hl : left < xs.length
  · have h2 : left - (xs.length : Int) < 0 := by omega
    go_enter Try.func32, Try.ntmps32
    go_wp2
    go_ret
    exact ⟨_, rfl, .inl rfl, Below.refl _ _⟩
  · go_enter Try.func32, Try.ntmps32
    go_wp2
    go_loopw [1, 5] (fun rv iv wr => ∃ (r : Int) (k : Nat), rv = .int .i64 r ∧ iv = .int .i64 k ∧ k ≤ xs.length ∧ 0 ≤ r ∧ r + xs.length + (((xs.take k).map exprTot).sum : Nat) = left ∧ Below w.heap.size w wr) (fun _ iv _ => xs.length - (intOf iv).toNat)
    case atStart => exact ⟨_, 0, rfl, rfl, Nat.zero_le _, by omega, by simp, Below.refl _ _⟩
    case round =>
      obtain ⟨rr, k, rfl, rfl, hk, hr, ht, hb⟩ := hrel
      have HB : Hid (Below w.heap.size w wr) := hb
      have HRr : Hid (RowC 1 ExprE wr (.slice a xs.length cap) xs) := RowC.below ExprE_stable HR.out hb
      clear hb
      by_cases hlt : k < xs.length
      · obtain ⟨b, off, vs, rfl, _, hc, hE⟩ := HRr.out.at hlt
        obtain ⟨r0, rfl, hh0⟩ := hE
        have n0 : wr.cell? ⟨b, off + k, none⟩ = some (r0) := by have h := hc 0 (by simp); rw [Nat.mul_one] at h; exact h
        have hnx := rowTot_next exprTot xs k hlt
        have HS : Hid (∀ W, Below wr.heap.size wr W → _) := fun W hW => gszExpr r0 xs[k] rr W hr (by omega) (HIn.out _ (List.getElem_mem hlt)) (hh0.below hW)
        obtain ⟨aa0, ca0, rfl⟩ := hh0.slice
        clear hc hh0
        go_wp2_with fail
        refine (HS.out _ (Below.refl _ _)).mono ?_
        rintro e w1 ⟨r1, rfl, hr1, hb1⟩
        have HB1 : Hid (Below w.heap.size w w1) := HB.out.trans (hb1.mono HB.out.size)
        clear hb1
        rcases hr1 with rfl | ⟨hr1, hr2⟩
        · go_wp2
          go_ret
          exact ⟨_, rfl, .inl rfl, HB1.out⟩
        · have hr3 : ¬ r1 < 0 := by omega
          go_wp2
          go_roundw
          case rel => exact ⟨r1, k + 1, rfl, by go_num, by omega, hr1, by omega, HB1.out⟩
          case measure => simp [intOf]; omega
      · obtain rfl : k = xs.length := by omega
        rw [List.take_of_length_le (Nat.le_refl _)] at ht
        have HE : Hid (rr + (rowTot exprTot xs : Nat) = left) := by rw [Hid, rowTot]; omega
        go_wp2
        go_ret
        exact ⟨_, rfl, .inr ⟨hr, HE.out⟩, HB.out⟩








end Go.Proofs.Ytpiajljmjhkdoaa
