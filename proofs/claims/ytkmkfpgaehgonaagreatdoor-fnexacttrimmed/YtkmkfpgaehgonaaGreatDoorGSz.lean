/- The laws' helpers on grammars: how great they are (printed by mk/gkit.py). -/
import Derived.Test.YtkmkfpgaehgonaaGreatDoorXPure
import Derived.Test.YtkmkfpgaehgonaaGreatDoorHld
namespace Go.Proofs.YtkmkfpgaehgonaaGreatDoor
open Go.RowKit

theorem gszStringS (v : Value) (xs : List ByteArray) (left : Int) (w : World) (h0 : 0 ≤ left) (h1 : left ≤ 1048576) (hin : RowInn StrIn xs) (h : SRow w v xs) :
    Calls Tryz.prog 49 #[v, .int .i64 left] w fun e w' => ∃ r : Int, e = .returned (.int .i64 r) ∧ (r = -1 ∨ (0 ≤ r ∧ r + (rowTot ByteArray.size xs : Nat) = left)) ∧ Below w.heap.size w w' := by
  refine (szStringS_any v xs left w h0 h1 hin.1 hin.2 h).mono ?_
  rintro e w' ⟨r, rfl, hr, rfl⟩
  refine ⟨r, rfl, hr.imp id (fun h => ⟨h.1, ?_⟩), Below.refl _ _⟩
  have := h.2
  have e : rowTot ByteArray.size xs = xs.length + totB xs := rfl
  omega
theorem gszExpr (v : Value) (x : List NodeD) (left : Int) (w : World) (h0 : 0 ≤ left) (h1 : left ≤ 1048576) (hin : ExprIn x) (h : NRow w v x) :
    Calls Tryz.prog 147 #[.agg #[v], .int .i64 left] w fun e w' => ∃ r : Int, e = .returned (.int .i64 r) ∧ (r = -1 ∨ (0 ≤ r ∧ r + (exprTot x : Nat) = left)) ∧ Below w.heap.size w w' := by
  refine (szExpr_any v x left w h0 h1 ⟨h, hin.1, hin.2⟩).mono ?_
  rintro e w' ⟨r, rfl, hr, hb⟩
  refine ⟨r, rfl, hr.imp id (fun h => ⟨h.1, ?_⟩), hb⟩
  have := h.2
  have e : exprTot x = x.length + totN x := rfl
  omega

set_option maxHeartbeats 1600000 in
theorem gszExprS (v : Value) (xs : List (List NodeD)) (left : Int) (w : World) (h0 : 0 ≤ left) (h1 : left ≤ 1048576) (hin : RowInn ExprIn xs) (h : RowC 1 ExprE w v xs) :
    Calls Tryz.prog 135 #[v, .int .i64 left] w fun e w' => ∃ r : Int, e = .returned (.int .i64 r) ∧ (r = -1 ∨ (0 ≤ r ∧ r + (rowTot exprTot xs : Nat) = left)) ∧ Below w.heap.size w w' := by
  have HR : Hid (RowC 1 ExprE w v xs) := h
  have HIn : Hid (∀ x ∈ xs, ExprIn x) := hin.2
  have hm := hin.1
  obtain ⟨a, cap, rfl⟩ := h.slice
  clear h hin
  unfold maxLen at hm
  by_cases hl : left < xs.length
  · have h2 : left - (xs.length : Int) < 0 := by omega
    go_enter Tryz.func135, Tryz.ntmps135
    go_wp2
    go_ret
    exact ⟨_, rfl, .inl rfl, Below.refl _ _⟩
  · go_enter Tryz.func135, Tryz.ntmps135
    go_wp2
    go_loopw [1, 5] (fun rv iv wr => ∃ (r : Int) (k : Nat), rv = .int .i64 r ∧ iv = .int .i64 k ∧ k ≤ xs.length ∧ 0 ≤ r ∧ r + xs.length + (((xs.take k).map exprTot).sum : Nat) = left ∧ Below w.heap.size w wr) (fun _ iv _ => xs.length - (intOf iv).toNat)
    case atStart => exact ⟨_, 0, rfl, rfl, Nat.zero_le _, by omega, by simp, Below.refl _ _⟩
    case round =>
      obtain ⟨rr, k, rfl, rfl, hk, hr, ht, hb⟩ := hrel
      have HB : Hid (Below w.heap.size w wr) := hb
      have HRr : Hid (RowC 1 ExprE wr (.slice a xs.length cap) xs) := RowC.below ExprE_stable HR.out hb
      clear hb
      by_cases hlt : k < xs.length
      · obtain ⟨b, off, vs, rfl, _, hc, hE⟩ := HRr.out.at hlt
        obtain ⟨r0, rfl, hh0⟩ := hE
        have n0 : wr.cell? ⟨b, off + k, none⟩ = some (r0) := by have h := hc 0 (by simp); rw [Nat.mul_one] at h; exact h
        have hnx := rowTot_next exprTot xs k hlt
        have HS : Hid (∀ W, Below wr.heap.size wr W → _) := fun W hW => gszExpr r0 xs[k] rr W hr (by omega) (HIn.out _ (List.getElem_mem hlt)) (hh0.below hW)
        obtain ⟨aa0, ca0, rfl⟩ := hh0.slice
        clear hc hh0
        go_wp2_with fail
        refine (HS.out _ (Below.refl _ _)).mono ?_
        rintro e w1 ⟨r1, rfl, hr1, hb1⟩
        have HB1 : Hid (Below w.heap.size w w1) := HB.out.trans (hb1.mono HB.out.size)
        clear hb1
        rcases hr1 with rfl | ⟨hr1, hr2⟩
        · go_wp2
          go_ret
          exact ⟨_, rfl, .inl rfl, HB1.out⟩
        · have hr3 : ¬ r1 < 0 := by omega
          go_wp2
          go_roundw
          case rel => exact ⟨r1, k + 1, rfl, by go_num, by omega, hr1, by omega, HB1.out⟩
          case measure => simp [intOf]; omega
      · obtain rfl : k = xs.length := by omega
        rw [List.take_of_length_le (Nat.le_refl _)] at ht
        have HE : Hid (rr + (rowTot exprTot xs : Nat) = left) := by rw [Hid, rowTot]; omega
        go_wp2
        go_ret
        exact ⟨_, rfl, .inr ⟨hr, HE.out⟩, HB.out⟩

set_option maxHeartbeats 1600000 in
theorem gszSym (r0 : Value) (x : SymD) (left : Int) (w : World) (h0 : 0 ≤ left) (h1 : left ≤ 1048576) (hin : SymIn x) (hh0 : RowC 1 ExprE w r0 x.args) :
    Calls Tryz.prog 117 #[.agg #[.int .i64 x.kind, .string x.text, r0, .string x.bind], .int .i64 left] w fun e w' => ∃ r : Int, e = .returned (.int .i64 r) ∧ (r = -1 ∨ (0 ≤ r ∧ r + (symTot x : Nat) = left)) ∧ Below w.heap.size w w' := by
  have BW : Hid (Below w.heap.size w (w.alloc (.cells #[.int .i64 x.kind, .string x.text, r0, .string x.bind] 150))) := (Below.refl _ _).alloc (Nat.le_refl _) _
  have HTt : Hid (symTot x = x.text.size + rowTot exprTot x.args + x.bind.size) := rfl
  obtain ⟨iKind, iText, iArgs, iBind⟩ := hin
  have sText : x.text.size ≤ 9223372036854775807 := by have := iText; unfold StrIn maxLen at this; omega
  have sBind : x.bind.size ≤ 9223372036854775807 := by have := iBind; unfold StrIn maxLen at this; omega
  have R0 : Hid (RowC 1 ExprE w r0 x.args) := hh0
  obtain ⟨aa0, ca0, rfl⟩ := hh0.slice
  clear hh0
  by_cases z1 : left < x.text.size
  · have q1 : left - (x.text.size : Int) < 0 := by omega
    go_enter Tryz.func117, Tryz.ntmps117
    go_wp2
    go_ret
    exact ⟨_, rfl, .inl rfl, BW.out⟩
  · have q1 : ¬ left - (x.text.size : Int) < 0 := by omega
    go_enter Tryz.func117, Tryz.ntmps117
    go_wp2_with fail
    refine (gszExprS _ x.args (left - (x.text.size : Int)) _ (by omega) (by omega) iArgs (RowC.below ExprE_stable R0.out BW.out)).mono ?_
    rintro e w0 ⟨l0, rfl, hl0, hb0⟩
    have B0 : Hid (Below w.heap.size w w0) := BW.out.trans (hb0.mono BW.out.size)
    have K0_3 : w0.cell? ⟨w.heap.size, 3, none⟩ = some (.string x.bind) := cell_keep (box_at w #[.int .i64 x.kind, .string x.text, .slice aa0 x.args.length ca0, .string x.bind] 150 3 _ rfl) hb0
    clear hb0
    rcases hl0 with rfl | ⟨p0, q0'⟩
    · go_wp2
      go_ret
      exact ⟨_, rfl, .inl rfl, B0.out⟩
    · have t0 : ¬ l0 < 0 := by omega
      by_cases z3 : l0 < x.bind.size
      · have q3 : l0 - (x.bind.size : Int) < 0 := by omega
        go_wp2
        go_ret
        exact ⟨_, rfl, .inl rfl, B0.out⟩
      · have q3 : ¬ l0 - (x.bind.size : Int) < 0 := by omega
        go_wp2
        go_ret
        exact ⟨_, rfl, .inr ⟨by omega, by have := HTt.out; omega⟩, B0.out⟩

set_option maxHeartbeats 1600000 in
theorem gszSymS (v : Value) (xs : List (SymD)) (left : Int) (w : World) (h0 : 0 ≤ left) (h1 : left ≤ 1048576) (hin : RowInn SymIn xs) (h : RowC 4 SymE w v xs) :
    Calls Tryz.prog 90 #[v, .int .i64 left] w fun e w' => ∃ r : Int, e = .returned (.int .i64 r) ∧ (r = -1 ∨ (0 ≤ r ∧ r + (rowTot symTot xs : Nat) = left)) ∧ Below w.heap.size w w' := by
  have HR : Hid (RowC 4 SymE w v xs) := h
  have HIn : Hid (∀ x ∈ xs, SymIn x) := hin.2
  have hm := hin.1
  obtain ⟨a, cap, rfl⟩ := h.slice
  clear h hin
  unfold maxLen at hm
  by_cases hl : left < xs.length
  · have h2 : left - (xs.length : Int) < 0 := by omega
    go_enter Tryz.func90, Tryz.ntmps90
    go_wp2
    go_ret
    exact ⟨_, rfl, .inl rfl, Below.refl _ _⟩
  · go_enter Tryz.func90, Tryz.ntmps90
    go_wp2
    go_loopw [1, 5] (fun rv iv wr => ∃ (r : Int) (k : Nat), rv = .int .i64 r ∧ iv = .int .i64 k ∧ k ≤ xs.length ∧ 0 ≤ r ∧ r + xs.length + (((xs.take k).map symTot).sum : Nat) = left ∧ Below w.heap.size w wr) (fun _ iv _ => xs.length - (intOf iv).toNat)
    case atStart => exact ⟨_, 0, rfl, rfl, Nat.zero_le _, by omega, by simp, Below.refl _ _⟩
    case round =>
      obtain ⟨rr, k, rfl, rfl, hk, hr, ht, hb⟩ := hrel
      have HB : Hid (Below w.heap.size w wr) := hb
      have HRr : Hid (RowC 4 SymE wr (.slice a xs.length cap) xs) := RowC.below SymE_stable HR.out hb
      clear hb
      by_cases hlt : k < xs.length
      · obtain ⟨b, off, vs, rfl, _, hc, hE⟩ := HRr.out.at hlt
        obtain ⟨r0, rfl, hh0⟩ := hE
        have n0 : wr.cell? ⟨b, off + k * 4, none⟩ = some (.int .i64 xs[k].kind) := hc 0 (by simp)
        have n1 : wr.cell? ⟨b, off + k * 4 + 1, none⟩ = some (.string xs[k].text) := hc 1 (by simp)
        have n2 : wr.cell? ⟨b, off + k * 4 + 2, none⟩ = some (r0) := hc 2 (by simp)
        have n3 : wr.cell? ⟨b, off + k * 4 + 3, none⟩ = some (.string xs[k].bind) := hc 3 (by simp)
        have hnx := rowTot_next symTot xs k hlt
        have HS : Hid (∀ W, Below wr.heap.size wr W → _) := fun W hW => gszSym r0 xs[k] rr W hr (by omega) (HIn.out _ (List.getElem_mem hlt)) (RowC.below ExprE_stable hh0 hW)
        obtain ⟨aa0, ca0, rfl⟩ := hh0.slice
        clear hc hh0
        go_wp2_with fail
        refine (HS.out _ (Below.refl _ _)).mono ?_
        rintro e w1 ⟨r1, rfl, hr1, hb1⟩
        have HB1 : Hid (Below w.heap.size w w1) := HB.out.trans (hb1.mono HB.out.size)
        clear hb1
        rcases hr1 with rfl | ⟨hr1, hr2⟩
        · go_wp2
          go_ret
          exact ⟨_, rfl, .inl rfl, HB1.out⟩
        · have hr3 : ¬ r1 < 0 := by omega
          go_wp2
          go_roundw
          case rel => exact ⟨r1, k + 1, rfl, by go_num, by omega, hr1, by omega, HB1.out⟩
          case measure => simp [intOf]; omega
      · obtain rfl : k = xs.length := by omega
        rw [List.take_of_length_le (Nat.le_refl _)] at ht
        have HE : Hid (rr + (rowTot symTot xs : Nat) = left) := by rw [Hid, rowTot]; omega
        go_wp2
        go_ret
        exact ⟨_, rfl, .inr ⟨hr, HE.out⟩, HB.out⟩

set_option maxHeartbeats 1600000 in
theorem gszAlt (r0 : Value) (x : List SymD) (left : Int) (w : World) (h0 : 0 ≤ left) (h1 : left ≤ 1048576) (hin : AltIn x) (hh0 : RowC 4 SymE w r0 x) :
    Calls Tryz.prog 73 #[.agg #[r0], .int .i64 left] w fun e w' => ∃ r : Int, e = .returned (.int .i64 r) ∧ (r = -1 ∨ (0 ≤ r ∧ r + (altTot x : Nat) = left)) ∧ Below w.heap.size w w' := by
  have BW : Hid (Below w.heap.size w (w.alloc (.cells #[r0] 108))) := (Below.refl _ _).alloc (Nat.le_refl _) _
  have HTt : Hid (altTot x = rowTot symTot x) := rfl
  have iSyms := hin
  have R0 : Hid (RowC 4 SymE w r0 x) := hh0
  obtain ⟨aa0, ca0, rfl⟩ := hh0.slice
  clear hh0
  go_enter Tryz.func73, Tryz.ntmps73
  go_wp2_with fail
  refine (gszSymS _ x left _ (by omega) (by omega) iSyms (RowC.below SymE_stable R0.out BW.out)).mono ?_
  rintro e w0 ⟨l0, rfl, hl0, hb0⟩
  have B0 : Hid (Below w.heap.size w w0) := BW.out.trans (hb0.mono BW.out.size)
  clear hb0
  rcases hl0 with rfl | ⟨p0, q0'⟩
  · go_wp2
    go_ret
    exact ⟨_, rfl, .inl rfl, B0.out⟩
  · have t0 : ¬ l0 < 0 := by omega
    go_wp2
    go_ret
    exact ⟨_, rfl, .inr ⟨by omega, by have := HTt.out; omega⟩, B0.out⟩

set_option maxHeartbeats 1600000 in
theorem gszAltS (v : Value) (xs : List (List SymD)) (left : Int) (w : World) (h0 : 0 ≤ left) (h1 : left ≤ 1048576) (hin : RowInn AltIn xs) (h : RowC 1 AltE w v xs) :
    Calls Tryz.prog 50 #[v, .int .i64 left] w fun e w' => ∃ r : Int, e = .returned (.int .i64 r) ∧ (r = -1 ∨ (0 ≤ r ∧ r + (rowTot altTot xs : Nat) = left)) ∧ Below w.heap.size w w' := by
  have HR : Hid (RowC 1 AltE w v xs) := h
  have HIn : Hid (∀ x ∈ xs, AltIn x) := hin.2
  have hm := hin.1
  obtain ⟨a, cap, rfl⟩ := h.slice
  clear h hin
  unfold maxLen at hm
  by_cases hl : left < xs.length
  · have h2 : left - (xs.length : Int) < 0 := by omega
    go_enter Tryz.func50, Tryz.ntmps50
    go_wp2
    go_ret
    exact ⟨_, rfl, .inl rfl, Below.refl _ _⟩
  · go_enter Tryz.func50, Tryz.ntmps50
    go_wp2
    go_loopw [1, 5] (fun rv iv wr => ∃ (r : Int) (k : Nat), rv = .int .i64 r ∧ iv = .int .i64 k ∧ k ≤ xs.length ∧ 0 ≤ r ∧ r + xs.length + (((xs.take k).map altTot).sum : Nat) = left ∧ Below w.heap.size w wr) (fun _ iv _ => xs.length - (intOf iv).toNat)
    case atStart => exact ⟨_, 0, rfl, rfl, Nat.zero_le _, by omega, by simp, Below.refl _ _⟩
    case round =>
      obtain ⟨rr, k, rfl, rfl, hk, hr, ht, hb⟩ := hrel
      have HB : Hid (Below w.heap.size w wr) := hb
      have HRr : Hid (RowC 1 AltE wr (.slice a xs.length cap) xs) := RowC.below AltE_stable HR.out hb
      clear hb
      by_cases hlt : k < xs.length
      · obtain ⟨b, off, vs, rfl, _, hc, hE⟩ := HRr.out.at hlt
        obtain ⟨r0, rfl, hh0⟩ := hE
        have n0 : wr.cell? ⟨b, off + k, none⟩ = some (r0) := by have h := hc 0 (by simp); rw [Nat.mul_one] at h; exact h
        have hnx := rowTot_next altTot xs k hlt
        have HS : Hid (∀ W, Below wr.heap.size wr W → _) := fun W hW => gszAlt r0 xs[k] rr W hr (by omega) (HIn.out _ (List.getElem_mem hlt)) (RowC.below SymE_stable hh0 hW)
        obtain ⟨aa0, ca0, rfl⟩ := hh0.slice
        clear hc hh0
        go_wp2_with fail
        refine (HS.out _ (Below.refl _ _)).mono ?_
        rintro e w1 ⟨r1, rfl, hr1, hb1⟩
        have HB1 : Hid (Below w.heap.size w w1) := HB.out.trans (hb1.mono HB.out.size)
        clear hb1
        rcases hr1 with rfl | ⟨hr1, hr2⟩
        · go_wp2
          go_ret
          exact ⟨_, rfl, .inl rfl, HB1.out⟩
        · have hr3 : ¬ r1 < 0 := by omega
          go_wp2
          go_roundw
          case rel => exact ⟨r1, k + 1, rfl, by go_num, by omega, hr1, by omega, HB1.out⟩
          case measure => simp [intOf]; omega
      · obtain rfl : k = xs.length := by omega
        rw [List.take_of_length_le (Nat.le_refl _)] at ht
        have HE : Hid (rr + (rowTot altTot xs : Nat) = left) := by rw [Hid, rowTot]; omega
        go_wp2
        go_ret
        exact ⟨_, rfl, .inr ⟨hr, HE.out⟩, HB.out⟩

set_option maxHeartbeats 1600000 in
theorem gszRule (r0 r1 : Value) (x : RuleD) (left : Int) (w : World) (h0 : 0 ≤ left) (h1 : left ≤ 1048576) (hin : RuleIn x) (hh0 : SRow w r0 x.params) (hh1 : RowC 1 AltE w r1 x.alts) :
    Calls Tryz.prog 25 #[.agg #[.string x.name, r0, r1], .int .i64 left] w fun e w' => ∃ r : Int, e = .returned (.int .i64 r) ∧ (r = -1 ∨ (0 ≤ r ∧ r + (ruleTot x : Nat) = left)) ∧ Below w.heap.size w w' := by
  have BW : Hid (Below w.heap.size w (w.alloc (.cells #[.string x.name, r0, r1] 55))) := (Below.refl _ _).alloc (Nat.le_refl _) _
  have HTt : Hid (ruleTot x = x.name.size + rowTot ByteArray.size x.params + rowTot altTot x.alts) := rfl
  obtain ⟨iName, iParams, iAlts⟩ := hin
  have sName : x.name.size ≤ 9223372036854775807 := by have := iName; unfold StrIn maxLen at this; omega
  have R0 : Hid (SRow w r0 x.params) := hh0
  obtain ⟨aa0, ca0, rfl⟩ := hh0.slice
  have R1 : Hid (RowC 1 AltE w r1 x.alts) := hh1
  obtain ⟨aa1, ca1, rfl⟩ := hh1.slice
  clear hh0 hh1
  by_cases z0 : left < x.name.size
  · have q0 : left - (x.name.size : Int) < 0 := by omega
    go_enter Tryz.func25, Tryz.ntmps25
    go_wp2
    go_ret
    exact ⟨_, rfl, .inl rfl, BW.out⟩
  · have q0 : ¬ left - (x.name.size : Int) < 0 := by omega
    go_enter Tryz.func25, Tryz.ntmps25
    go_wp2_with fail
    refine (gszStringS _ x.params (left - (x.name.size : Int)) _ (by omega) (by omega) iParams (R0.out.below BW.out)).mono ?_
    rintro e w0 ⟨l0, rfl, hl0, hb0⟩
    have B0 : Hid (Below w.heap.size w w0) := BW.out.trans (hb0.mono BW.out.size)
    have K0_2 : w0.cell? ⟨w.heap.size, 2, none⟩ = some (.slice aa1 x.alts.length ca1) := cell_keep (box_at w #[.string x.name, .slice aa0 x.params.length ca0, .slice aa1 x.alts.length ca1] 55 2 _ rfl) hb0
    clear hb0
    rcases hl0 with rfl | ⟨p0, q0'⟩
    · go_wp2
      go_ret
      exact ⟨_, rfl, .inl rfl, B0.out⟩
    · have t0 : ¬ l0 < 0 := by omega
      go_wp2_with fail
      refine (gszAltS _ x.alts l0 _ (by omega) (by omega) iAlts (RowC.below AltE_stable R1.out B0.out)).mono ?_
      rintro e w1 ⟨l1, rfl, hl1, hb1⟩
      have B1 : Hid (Below w.heap.size w w1) := B0.out.trans (hb1.mono B0.out.size)
      clear hb1
      rcases hl1 with rfl | ⟨p1, q1'⟩
      · go_wp2
        go_ret
        exact ⟨_, rfl, .inl rfl, B1.out⟩
      · have t1 : ¬ l1 < 0 := by omega
        go_wp2
        go_ret
        exact ⟨_, rfl, .inr ⟨by omega, by have := HTt.out; omega⟩, B1.out⟩

set_option maxHeartbeats 1600000 in
theorem gszRuleS (v : Value) (xs : List (RuleD)) (left : Int) (w : World) (h0 : 0 ≤ left) (h1 : left ≤ 1048576) (hin : RowInn RuleIn xs) (h : RowC 3 RuleE w v xs) :
    Calls Tryz.prog 11 #[v, .int .i64 left] w fun e w' => ∃ r : Int, e = .returned (.int .i64 r) ∧ (r = -1 ∨ (0 ≤ r ∧ r + (rowTot ruleTot xs : Nat) = left)) ∧ Below w.heap.size w w' := by
  have HR : Hid (RowC 3 RuleE w v xs) := h
  have HIn : Hid (∀ x ∈ xs, RuleIn x) := hin.2
  have hm := hin.1
  obtain ⟨a, cap, rfl⟩ := h.slice
  clear h hin
  unfold maxLen at hm
  by_cases hl : left < xs.length
  · have h2 : left - (xs.length : Int) < 0 := by omega
    go_enter Tryz.func11, Tryz.ntmps11
    go_wp2
    go_ret
    exact ⟨_, rfl, .inl rfl, Below.refl _ _⟩
  · go_enter Tryz.func11, Tryz.ntmps11
    go_wp2
    go_loopw [1, 5] (fun rv iv wr => ∃ (r : Int) (k : Nat), rv = .int .i64 r ∧ iv = .int .i64 k ∧ k ≤ xs.length ∧ 0 ≤ r ∧ r + xs.length + (((xs.take k).map ruleTot).sum : Nat) = left ∧ Below w.heap.size w wr) (fun _ iv _ => xs.length - (intOf iv).toNat)
    case atStart => exact ⟨_, 0, rfl, rfl, Nat.zero_le _, by omega, by simp, Below.refl _ _⟩
    case round =>
      obtain ⟨rr, k, rfl, rfl, hk, hr, ht, hb⟩ := hrel
      have HB : Hid (Below w.heap.size w wr) := hb
      have HRr : Hid (RowC 3 RuleE wr (.slice a xs.length cap) xs) := RowC.below RuleE_stable HR.out hb
      clear hb
      by_cases hlt : k < xs.length
      · obtain ⟨b, off, vs, rfl, _, hc, hE⟩ := HRr.out.at hlt
        obtain ⟨r0, r1, rfl, hh0, hh1⟩ := hE
        have n0 : wr.cell? ⟨b, off + k * 3, none⟩ = some (.string xs[k].name) := hc 0 (by simp)
        have n1 : wr.cell? ⟨b, off + k * 3 + 1, none⟩ = some (r0) := hc 1 (by simp)
        have n2 : wr.cell? ⟨b, off + k * 3 + 2, none⟩ = some (r1) := hc 2 (by simp)
        have hnx := rowTot_next ruleTot xs k hlt
        have HS : Hid (∀ W, Below wr.heap.size wr W → _) := fun W hW => gszRule r0 r1 xs[k] rr W hr (by omega) (HIn.out _ (List.getElem_mem hlt)) (hh0.below hW) (RowC.below AltE_stable hh1 hW)
        obtain ⟨aa0, ca0, rfl⟩ := hh0.slice
        obtain ⟨aa1, ca1, rfl⟩ := hh1.slice
        clear hc hh0 hh1
        go_wp2_with fail
        refine (HS.out _ (Below.refl _ _)).mono ?_
        rintro e w1 ⟨r1, rfl, hr1, hb1⟩
        have HB1 : Hid (Below w.heap.size w w1) := HB.out.trans (hb1.mono HB.out.size)
        clear hb1
        rcases hr1 with rfl | ⟨hr1, hr2⟩
        · go_wp2
          go_ret
          exact ⟨_, rfl, .inl rfl, HB1.out⟩
        · have hr3 : ¬ r1 < 0 := by omega
          go_wp2
          go_roundw
          case rel => exact ⟨r1, k + 1, rfl, by go_num, by omega, hr1, by omega, HB1.out⟩
          case measure => simp [intOf]; omega
      · obtain rfl : k = xs.length := by omega
        rw [List.take_of_length_le (Nat.le_refl _)] at ht
        have HE : Hid (rr + (rowTot ruleTot xs : Nat) = left) := by rw [Hid, rowTot]; omega
        go_wp2
        go_ret
        exact ⟨_, rfl, .inr ⟨hr, HE.out⟩, HB.out⟩

set_option maxHeartbeats 1600000 in
theorem gszGrammar (r0 : Value) (x : List RuleD) (left : Int) (w : World) (h0 : 0 ≤ left) (h1 : left ≤ 1048576) (hin : GrammarIn x) (hh0 : RowC 3 RuleE w r0 x) :
    Calls Tryz.prog 4 #[.agg #[r0], .int .i64 left] w fun e w' => ∃ r : Int, e = .returned (.int .i64 r) ∧ (r = -1 ∨ (0 ≤ r ∧ r + (grammarTot x : Nat) = left)) ∧ Below w.heap.size w w' := by
  have BW : Hid (Below w.heap.size w (w.alloc (.cells #[r0] 24))) := (Below.refl _ _).alloc (Nat.le_refl _) _
  have HTt : Hid (grammarTot x = rowTot ruleTot x) := rfl
  have iRules := hin
  have R0 : Hid (RowC 3 RuleE w r0 x) := hh0
  obtain ⟨aa0, ca0, rfl⟩ := hh0.slice
  clear hh0
  go_enter Tryz.func4, Tryz.ntmps4
  go_wp2_with fail
  refine (gszRuleS _ x left _ (by omega) (by omega) iRules (RowC.below RuleE_stable R0.out BW.out)).mono ?_
  rintro e w0 ⟨l0, rfl, hl0, hb0⟩
  have B0 : Hid (Below w.heap.size w w0) := BW.out.trans (hb0.mono BW.out.size)
  clear hb0
  rcases hl0 with rfl | ⟨p0, q0'⟩
  · go_wp2
    go_ret
    exact ⟨_, rfl, .inl rfl, B0.out⟩
  · have t0 : ¬ l0 < 0 := by omega
    go_wp2
    go_ret
    exact ⟨_, rfl, .inr ⟨by omega, by have := HTt.out; omega⟩, B0.out⟩

end Go.Proofs.YtkmkfpgaehgonaaGreatDoor
