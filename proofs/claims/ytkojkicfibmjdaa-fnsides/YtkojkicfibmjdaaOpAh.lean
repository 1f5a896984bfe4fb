/- The program's climb: all that bind before the next one are bound. -/
import Derived.Test.YtkojkicfibmjdaaOpI3
namespace Go.Proofs.Ytkojkicfibmjdaa
open Go.RowKit
set_option linter.unusedVariables false

def bound13 (y : OpD) (ts : List ByteArray) (ws : List OpD) : CmD := ⟨(bind13 y ts ws).1, (bind13 y ts ws).2, true⟩
def AheadP (W : World) (xs : List OpD) (a : Option Addr) (cap p N : Nat) (y : OpD) (ts : List ByteArray) (ws : List OpD) (w : World) : Prop := Inv13 xs N (bound13 y ts ws) ∧ ∃ tv wv, CmB W xs a cap p (bound13 y ts ws) tv wv w

set_option maxHeartbeats 6400000 in
set_option maxRecDepth 100000 in
theorem bindAhead_any (W : World) (xs : List OpD) (a : Option Addr) (cap p N : Nat) (ts0 : List ByteArray) (ws0 : List OpD) (y : OpD) (tv wv : Value) (w : World) (ho : opsB xs = true) (hN : N ≤ 12) (hy : y = par13 ∨ y ∈ xs) (hI : Inv13 xs N ⟨ts0, ws0, true⟩) (h : CmB W xs a cap p ⟨ts0, ws0, true⟩ tv wv w) :
    Calls Try.prog 32 #[.pointer (some ⟨p, 0, none⟩), .agg #[.string y.sign, .int .i64 y.level, .bool y.right]] w fun e w' => e = .returned (.tuple #[]) ∧ AheadP W xs a cap p N y ts0 ws0 w' ∧ FrC W.heap.size w w' := by
  have BL : Below w.heap.size w (w.alloc (.cells #[.string y.sign, .int .i64 y.level, .bool y.right] 27)) := (Below.refl _ _).alloc (Nat.le_refl _) _
  have H0 : Hid (CmB W xs a cap p ⟨ts0, ws0, true⟩ tv wv (w.alloc (.cells #[.string y.sign, .int .i64 y.level, .bool y.right] 27))) := h.below BL
  have X0 : Hid ((w.alloc (.cells #[.string y.sign, .int .i64 y.level, .bool y.right] 27)).heap[w.heap.size]? = some (.cells #[.string y.sign, .int .i64 y.level, .bool y.right] 27 (0, 0))) := heap_alloc_new w _
  have F0 : Hid (FrC W.heap.size w (w.alloc (.cells #[.string y.sign, .int .i64 y.level, .bool y.right] 27))) := h.frb BL
  have HI0 : Hid (Inv13 xs N ⟨ts0, ws0, true⟩) := hI
  have HO : Hid (opsB xs = true) := ho
  have HY : Hid (y = par13 ∨ y ∈ xs) := hy
  have hlp : p < w.heap.size := (Array.getElem?_eq_some_iff.1 h.box).1
  clear h hI BL ho hy
  go_enter Try.func32, Try.ntmps32
  go_wp2
  generalize (w.alloc (.cells #[.string y.sign, .int .i64 y.level, .bool y.right] 27)) = w1 at *
  go_loopg [] ws0.length (fun gg wr => ∃ (ts : List ByteArray) (ws : List OpD) (tv wv : Value), ws.length ≤ gg ∧ bind13 y ts ws = bind13 y ts0 ws0 ∧ Inv13 xs N ⟨ts, ws, true⟩ ∧ CmB W xs a cap p ⟨ts, ws, true⟩ tv wv wr ∧ FrC W.heap.size w1 wr)
  case atStart => exact ⟨ts0, ws0, tv, wv, Nat.le_refl _, rfl, HI0.out, H0.out, FrT.refl _ _ _⟩
  case round =>
    obtain ⟨ts, ws, tv, wv, hg, hb, hI, hC, hF⟩ := hrel
    obtain ⟨wa, rfl⟩ : ∃ V, V = wr := ⟨wr, rfl⟩
    have HG : Hid (ws.length ≤ gk) := hg
    have HB : Hid (bind13 y ts ws = bind13 y ts0 ws0) := hb
    have HI : Hid (Inv13 xs N ⟨ts, ws, true⟩) := hI
    have HC : Hid (CmB W xs a cap p ⟨ts, ws, true⟩ tv wv wa) := hC
    have HF : Hid (FrC W.heap.size w1 wa) := hF
    have HX : Hid (wa.heap[w.heap.size]? = some (.cells #[.string y.sign, .int .i64 y.level, .bool y.right] 27 (0, 0))) := hF.typ _ _ _ _ X0.out (by decide)
    have hsm := (hI.small hN).1
    clear hg hb hI hC hF
    cases ws with
    | nil =>
      have hC := HC.out
      obtain ⟨aw, cw, hwv⟩ : ∃ aw cw, wv = .slice aw 0 cw := by
        rcases hC.wts.2 with ⟨e, _⟩ | ⟨g, cap', cur, e, _⟩
        · exact ⟨none, 0, e⟩
        · exact ⟨_, _, e⟩
      subst hwv
      have c2 : wa.cell? ⟨p, 2, none⟩ = some (.slice aw 0 cw) := run_cell hC.box rfl
      have HE : Hid (bind13 y ts0 ws0 = (ts, [])) := by rw [Hid, ← HB.out, bind_nil]
      have HFr : Hid (FrC W.heap.size w wa) := F0.out.trans HF.out
      clear hC
      go_wp2
      go_quiet (fail)
      go_wp2
      go_end0
      refine ⟨rfl, ?_, HFr.out.trans (HC.out.frb (bel_drewN (Below.refl _ _) _))⟩
      unfold AheadP bound13
      rw [HE.out]
      exact ⟨HI.out, _, _, HC.out.drewN _⟩
    | cons x ws =>
      obtain ⟨gw, cw, rfl, hcw, hgw⟩ := own_some13 HC.out.wts (by simp)
      obtain ⟨d0, d1, d2⟩ := ov_last ws x
      have n0 := own_at13 HC.out.wts _ _ d0
      have n1 := own_at13 HC.out.wts _ _ d1
      have n2 := own_at13 HC.out.wts _ _ d2
      obtain ⟨nw, hnw⟩ : ∃ nw, nw = ws.length + 1 := ⟨_, rfl⟩
      have c2 : wa.cell? ⟨p, 2, none⟩ = some (.slice (some ⟨gw, 0, none⟩) nw cw) := by rw [hnw]; exact run_cell HC.out.box rfl
      have y0 := run_cell (j := 0) HX.out rfl
      have y1 := run_cell (j := 1) HX.out rfl
      have y2 := run_cell (j := 2) HX.out rfl
      have HBf : Hid (∀ V : World, _) := fun V => bindsBefore_any x y V
      have hwl : ws.length ≤ 15 := by simp at hsm; omega
      have i1 : (0 : Int) < (nw : Int) := by omega
      have hd1 : decide ((0 : Int) < (nw : Int)) = true := decide_eq_true i1
      have i1n : 0 < nw := by omega
      have hd2 : decide (0 < nw) = true := decide_eq_true i1n
      have i2 : IntKind.i64.wrap ((nw : Int) - 1) = (ws.length : Int) := by rw [IntKind.wrap_i64]; omega
      have i3 : (ws.length : Int) < (nw : Int) := by omega
      have hG2 : ws.length + 1 ≤ gk := HG.out
      have HNw : Hid (nw = ws.length + 1) := hnw
      clear d0 d1 d2 hcw hgw HG hsm hnw
      cases hbf : before13 x y with
      | false =>
        have HE : Hid (bind13 y ts0 ws0 = (ts, x :: ws)) := by rw [Hid, ← HB.out, bind_stop hbf]
        rw [hbf] at HBf
        clear hbf
        generalize hm : ws.length = m at *
        have HMm : Hid (ws.length = m) := hm
        clear hm
        go_wp2
        first | (go_region_held3 (fun V => V.cell? ⟨p, 2, none⟩ = some (.slice (some ⟨gw, 0, none⟩) nw cw) ∧ V.cell? ⟨gw, m * 3, none⟩ = some (.string x.sign) ∧ V.cell? ⟨gw, m * 3 + 1, none⟩ = some (.int .i64 x.level) ∧ V.cell? ⟨gw, m * 3 + 2, none⟩ = some (.bool x.right) ∧ V.cell? ⟨w.heap.size, 0, none⟩ = some (.string y.sign) ∧ V.cell? ⟨w.heap.size, 1, none⟩ = some (.int .i64 y.level) ∧ V.cell? ⟨w.heap.size, 2, none⟩ = some (.bool y.right)) ((first | exact keep7o (by assumption) hb3 | go_keep)) ((go_at_call 45; refine (HBf.out _).mono ?_; rintro e w3 ⟨rfl, hb3⟩))) | fail
        have B3 : Below wa.heap.size wa w3 := (bel_drewN (Below.refl wa.heap.size wa) 1).trans hb3
        have HP : Hid (AheadP W xs a cap p N y ts0 ws0 w3) := by
          unfold Hid AheadP bound13
          rw [HE.out]
          exact ⟨HI.out, _, _, HC.out.below B3⟩
        have HFr : Hid (FrC W.heap.size w w3) := (F0.out.trans HF.out).trans (HC.out.frb B3)
        rename_i hHeld
        clear hHeld hb3 B3
        go_wp2
        go_end0
        exact ⟨rfl, HP.out, HFr.out⟩
      | true =>
        obtain ⟨hx, b, c, r, hts⟩ := HI.out.top HO.out HY.out hbf
        subst hts
        have HE : Hid (bind13 y (two13 c x b :: r) ws = bind13 y ts0 ws0) := by rw [Hid, ← HB.out, bind_go hbf]
        have HI2 : Hid (Inv13 xs N ⟨two13 c x b :: r, ws, true⟩) := HI.out.bind HO.out hx
        have hsz := (HI.out.small hN).2.2
        have h1 := sizes_at (b :: c :: r) b (by simp)
        have h2 := sizes_at (b :: c :: r) c (by simp)
        have hrl := (HI.out.small hN).2.1
        have hxs : x.sign.size ≤ 1000 := by
          have := (sign_one HO.out hx).1
          omega
        have HBL : Hid (∀ (V : World), CmB W xs a cap p ⟨b :: c :: r, x :: ws, true⟩ tv (.slice (some ⟨gw, 0, none⟩) (x :: ws).length cw) V → _) := fun V hV => bindLast_any W xs a cap p b c r x ws true _ _ V (by show c.size + b.size ≤ 1000; have h3 : sizes13 (b :: c :: r) ≤ 48 := hsz; omega) hxs (by simp at hrl; omega) (by omega) hV
        rw [hbf] at HBf
        have hgk : gk - 1 < gk := by omega
        have hgl : ws.length ≤ gk - 1 := by omega
        clear hbf hsz h1 h2 hrl
        have HWl : Hid (ws.length ≤ gk - 1) := hgl
        clear hgl
        generalize hm : ws.length = m at *
        have HMm : Hid (ws.length = m) := hm
        clear hm
        go_wp2
        first | (go_region_held3 (fun V => V.cell? ⟨p, 2, none⟩ = some (.slice (some ⟨gw, 0, none⟩) nw cw) ∧ V.cell? ⟨gw, m * 3, none⟩ = some (.string x.sign) ∧ V.cell? ⟨gw, m * 3 + 1, none⟩ = some (.int .i64 x.level) ∧ V.cell? ⟨gw, m * 3 + 2, none⟩ = some (.bool x.right) ∧ V.cell? ⟨w.heap.size, 0, none⟩ = some (.string y.sign) ∧ V.cell? ⟨w.heap.size, 1, none⟩ = some (.int .i64 y.level) ∧ V.cell? ⟨w.heap.size, 2, none⟩ = some (.bool y.right)) ((first | exact keep7o (by assumption) hb3 | go_keep)) ((go_at_call 45; refine (HBf.out _).mono ?_; rintro e w3 ⟨rfl, hb3⟩))) | fail
        have B3 : Below wa.heap.size wa w3 := (bel_drewN (Below.refl wa.heap.size wa) 1).trans hb3
        have H3 := HC.out.below B3
        have HFr : Hid (FrC W.heap.size w1 w3) := HF.out.trans (HC.out.frb B3)
        rename_i hHeld
        clear hHeld hb3 B3
        go_wp2_with (go_at_call 46; refine (HBL.out _ H3).mono ?_; rintro e w4 ⟨rfl, ⟨tv2, wv2, H4⟩, F4⟩)
        go_roundg (gk - 1)
        case rel => exact ⟨two13 c x b :: r, ws, tv2, wv2, by rw [HMm.out]; exact HWl.out, HE.out, HI2.out, H4, HFr.out.trans F4⟩
        case measure => exact hgk

end Go.Proofs.Ytkojkicfibmjdaa
