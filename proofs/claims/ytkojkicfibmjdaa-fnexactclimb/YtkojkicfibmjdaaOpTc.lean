/- The program's climb: a parenthesis is closed (printed by mk/optk.py). -/
import Derived.Test.YtkojkicfibmjdaaOpTk
namespace Go.Proofs.Ytkojkicfibmjdaa
open Go.RowKit
set_option linter.unusedVariables false

set_option maxHeartbeats 3200000 in
set_option maxRecDepth 100000 in
theorem drop_nil (W : World) (xs : List OpD) (a : Option Addr) (cap p : Nat) (ts : List ByteArray) (bh : Bool) (tv wv : Value) (w : World) (h : CmB W xs a cap p ⟨ts, [], bh⟩ tv wv w) :
    Calls Try.prog 33 #[.pointer (some ⟨p, 0, none⟩)] w fun e w' => e = .returned (.bool false) ∧ Below W.heap.size W w' := by
  obtain ⟨aw, cw, rfl⟩ := own_shape13 h.wts
  have c2 : w.cell? ⟨p, 2, none⟩ = some (.slice aw 0 cw) := run_cell h.box rfl
  have HB : Hid (Below W.heap.size W w) := h.bel
  clear h
  go_enter Try.func33, Try.ntmps33
  go_wp2
  go_ret
  exact ⟨rfl, HB.out⟩

set_option maxHeartbeats 3200000 in
set_option maxRecDepth 100000 in
theorem drop_cons (W : World) (xs : List OpD) (a : Option Addr) (cap p : Nat) (ts : List ByteArray) (x : OpD) (ws : List OpD) (bh : Bool) (tv wv : Value) (w : World) (hl : ws.length ≤ 100) (h : CmB W xs a cap p ⟨ts, x :: ws, bh⟩ tv wv w) :
    Calls Try.prog 33 #[.pointer (some ⟨p, 0, none⟩)] w fun e w' => e = .returned (.bool true) ∧ ∃ wv', CmB W xs a cap p ⟨ts, ws, bh⟩ tv wv' w' := by
  obtain ⟨gw, cw, rfl, hcw, hgw⟩ := own_some13 h.wts (by simp)
  have ew : (x :: ws).reverse = ws.reverse ++ [x] := by simp
  have HWk : Hid (w.ownsRow W.heap.size 27 3 (.slice (some ⟨gw, 0, none⟩) ws.length cw) ws.length (ov ws.reverse)) := own_take13 h.wts (by simp) (by rw [ew, ov_app]; exact List.take_left' (by rw [ov_len]; simp))
  obtain ⟨nw, hnw⟩ : ∃ nw, nw = ws.length + 1 := ⟨_, rfl⟩
  have c2 : w.cell? ⟨p, 2, none⟩ = some (.slice (some ⟨gw, 0, none⟩) nw cw) := by rw [hnw]; exact run_cell h.box rfl
  have f2 : w.frozen? ⟨p, 2, none⟩ = false := run_frozen h.box
  have HF : Hid (CmB W xs a cap p ⟨ts, ws, bh⟩ tv (.slice (some ⟨gw, 0, none⟩) ws.length cw) (w.setCell ⟨p, 2, none⟩ (.slice (some ⟨gw, 0, none⟩) ws.length cw))) := h.setW (ws' := ws) HWk.out
  have hcw2 : ws.length + 1 ≤ cw := hcw
  have b0 : ((nw : Int) == 0) = false := by rw [beq_eq_false_iff_ne]; omega
  have b1 : (nw == 0) = false := by rw [beq_eq_false_iff_ne]; omega
  have b2 : ¬ nw = 0 := by omega
  have i3 : IntKind.i64.wrap ((nw : Int) - 1) = (ws.length : Int) := by rw [IntKind.wrap_i64]; omega
  have j5 : (ws.length : Int) ≤ (cw : Int) := by omega
  have j5' : ws.length ≤ cw := by omega
  clear h ew hcw hnw hcw2
  generalize ws.length = mw at *
  go_enter Try.func33, Try.ntmps33
  go_wp2
  go_region
  go_wp2
  go_ret
  exact ⟨rfl, _, HF.out.below (bel_drewO (Below.refl _ _))⟩

theorem bind_top {xs : List OpD} {N : Nat} {y : OpD} (ho : opsB xs = true) (hy : y = par13 ∨ y ∈ xs) : ∀ (ws : List OpD) (ts : List ByteArray), Inv13 xs N ⟨ts, ws, true⟩ → ∀ (x : OpD) (r : List OpD), (bind13 y ts ws).2 = x :: r → before13 x y = false ∧ (x = par13 ∨ x ∈ xs)
  | [], ts, _, x, r, e => by rw [bind_nil] at e; cases e
  | x0 :: r0, ts, h, x, r, e => by
    cases hb : before13 x0 y with
    | false =>
      rw [bind_stop hb] at e
      cases e
      exact ⟨hb, h.wt _ (List.mem_cons_self ..)⟩
    | true =>
      obtain ⟨hx, b, a, r', rfl⟩ := h.top ho hy hb
      rw [bind_go hb] at e
      exact bind_top ho hy r0 _ (h.bind ho hx) x r e
theorem drop_inv {xs : List OpD} {N : Nat} {ts : List ByteArray} {ws : List OpD} {x : OpD} {r : List OpD} (ho : opsB xs = true) (h : Inv13 xs N ⟨ts, ws, true⟩) (e : (bind13 par13 ts ws).2 = x :: r) {TS : List ByteArray} (h3 : Inv13 xs N ⟨TS, x :: r, true⟩) : Inv13 xs (N + 1) ⟨TS, r, true⟩ := by
  obtain ⟨h1, h2⟩ := bind_top ho (.inl rfl) ws ts h x r e
  have hx : x = par13 := by
    rcases h2 with h2 | h2
    · exact h2
    · rw [before_par (sign_one ho h2).2.1] at h1; cases h1
  subst hx
  refine ⟨?_, ?_, fun z hz => h3.wt z (List.mem_cons_of_mem _ hz)⟩
  · have := h3.num
    simp only [List.filter_cons, show real13 par13 = false by decide] at this ⊢
    exact this
  · have h4 : sizes13 TS + 3 * (r.length + 1) ≤ 4 * N := h3.sz
    show sizes13 TS + 3 * r.length ≤ 4 * (N + 1)
    omega


set_option maxHeartbeats 6400000 in
set_option maxRecDepth 100000 in
theorem takeC0 (W : World) (xs : List OpD) (a : Option Addr) (cap p N : Nat) (ts : List ByteArray) (ws : List OpD) (tv wv : Value) (b : UInt8) (w : World) (ho : opsB xs = true) (hN : N ≤ 11) (hq : (opAt13 xs b).2 = false) (hb : b = 41) (hw : (bind13 par13 ts ws).2 = []) (hI : Inv13 xs N ⟨ts, ws, true⟩) (h : CmB W xs a cap p ⟨ts, ws, true⟩ tv wv w) :
    Calls Try.prog 18 #[.pointer (some ⟨p, 0, none⟩), .int .u8 (b.toNat : Int)] w fun e w' => e = .returned (.bool false) ∧ Below W.heap.size W w' := by
  have HOp : Hid (∀ _ : Unit, _) := fun _ => opOfI_any W xs a cap p ⟨ts, ws, true⟩ tv wv b w ho h
  have HC : Hid (CmB W xs a cap p ⟨ts, ws, true⟩ tv wv w) := h
  have hyp : (opAt13 xs b).1 = par13 := by
    rcases opAt_cases xs b with ⟨h1, _⟩ | ⟨_, e⟩
    · exact h1
    · rw [hq] at e; cases e
  rw [hq, hyp] at HOp
  have b40 : ((b.toNat : Int) == 40) = false := by rw [hb]; rfl
  have b41 : ((b.toNat : Int) == 41) = true := by rw [hb]; rfl
  have HO : Hid (opsB xs = true) := ho
  have HI : Hid (Inv13 xs N ⟨ts, ws, true⟩) := hI
  obtain ⟨y, hyy⟩ : ∃ y, y = par13 := ⟨_, rfl⟩
  have HYy : Hid (y = par13) := hyy
  have HW : Hid ((bind13 y ts ws).2 = []) := by rw [hyy]; exact hw
  rw [← hyy] at HOp 
  have hy : y = par13 ∨ y ∈ xs := .inl hyy
  clear h hq hyp hyy hw hb
  have HAh : Hid (∀ (V : World), CmB W xs a cap p ⟨ts, ws, true⟩ tv wv V → _) := fun V hV => bindAhead_any W xs a cap p N ts ws y tv wv V ho (by omega) hy hI hV
  obtain ⟨TS, hTS⟩ : ∃ TS, TS = (bind13 y ts ws).1 := ⟨_, rfl⟩
  have HTS : Hid (TS = (bind13 y ts ws).1) := hTS
  skip
  clear hTS ho hI hy
  go_enter Try.func18, Try.ntmps18
  go_wp2_with (go_at_call 31; refine (HOp.out ()).mono ?_; rintro e w1 ⟨rfl, hb1⟩; have B1 : Below w1.heap.size w1 (w1.alloc (.cells #[.string y.sign, .int .i64 y.level, .bool y.right] 27)) := (Below.refl w1.heap.size w1).alloc (Nat.le_refl _) _; have H1 : Hid (CmB W xs a cap p ⟨ts, ws, true⟩ tv wv (w1.alloc (.cells #[.string y.sign, .int .i64 y.level, .bool y.right] 27))) := HC.out.below (hb1.trans (B1.mono hb1.size)); have X1 : Hid ((w1.alloc (.cells #[.string y.sign, .int .i64 y.level, .bool y.right] 27)).heap[w1.heap.size]? = some (.cells #[.string y.sign, .int .i64 y.level, .bool y.right] 27 (0, 0))) := heap_alloc_new w1 _; have c3 := run_cell (j := 3) H1.out.box rfl; have y0 := run_cell (j := 0) X1.out rfl; have y1 := run_cell (j := 1) X1.out rfl; have y2 := run_cell (j := 2) X1.out rfl; clear B1 hb1)
  generalize (w1.alloc (.cells #[.string y.sign, .int .i64 y.level, .bool y.right] 27)) = w2 at *
  generalize w1.heap.size = bx at *
  refine (HAh.out _ H1.out).mono ?_
  rintro e w3 ⟨rfl, ⟨hI3, tv3, wv3, hC3⟩, hF3⟩
  have X3 : Hid (w3.heap[bx]? = some (.cells #[.string y.sign, .int .i64 y.level, .bool y.right] 27 (0, 0))) := hF3.typ _ _ _ _ X1.out (by decide)
  unfold bound13 at hI3 hC3
  rw [← HTS.out, HW.out] at hI3 hC3
  have HD : Hid (∀ _ : Unit, _) := fun _ => drop_nil W xs a cap p TS true tv3 wv3 w3 hC3
  clear hI3 hC3 hF3 X3 HAh HOp HC H1 X1 c3 y0 y1 y2
  go_wp2_with (go_at_call 33; refine (HD.out ()).mono ?_; rintro e w4 ⟨rfl, hb4⟩)
  go_ret
  exact ⟨rfl, hb4⟩

set_option maxHeartbeats 6400000 in
set_option maxRecDepth 100000 in
theorem takeC1 (W : World) (xs : List OpD) (a : Option Addr) (cap p N : Nat) (ts : List ByteArray) (ws : List OpD) (tv wv : Value) (b : UInt8) (w : World) (ho : opsB xs = true) (hN : N ≤ 11) (hq : (opAt13 xs b).2 = false) (hb : b = 41) (x : OpD) (r : List OpD) (hw : (bind13 par13 ts ws).2 = x :: r) (hI : Inv13 xs N ⟨ts, ws, true⟩) (h : CmB W xs a cap p ⟨ts, ws, true⟩ tv wv w) :
    Calls Try.prog 18 #[.pointer (some ⟨p, 0, none⟩), .int .u8 (b.toNat : Int)] w fun e w' => e = .returned (.bool true) ∧ TakeP W xs a cap p N ⟨(bind13 par13 ts ws).1, r, true⟩ w' := by
  have HOp : Hid (∀ _ : Unit, _) := fun _ => opOfI_any W xs a cap p ⟨ts, ws, true⟩ tv wv b w ho h
  have HC : Hid (CmB W xs a cap p ⟨ts, ws, true⟩ tv wv w) := h
  have hyp : (opAt13 xs b).1 = par13 := by
    rcases opAt_cases xs b with ⟨h1, _⟩ | ⟨_, e⟩
    · exact h1
    · rw [hq] at e; cases e
  rw [hq, hyp] at HOp
  have b40 : ((b.toNat : Int) == 40) = false := by rw [hb]; rfl
  have b41 : ((b.toNat : Int) == 41) = true := by rw [hb]; rfl
  have HO : Hid (opsB xs = true) := ho
  have HI : Hid (Inv13 xs N ⟨ts, ws, true⟩) := hI
  obtain ⟨y, hyy⟩ : ∃ y, y = par13 := ⟨_, rfl⟩
  have HYy : Hid (y = par13) := hyy
  have HW : Hid ((bind13 y ts ws).2 = x :: r) := by rw [hyy]; exact hw
  rw [← hyy] at HOp ⊢
  have hy : y = par13 ∨ y ∈ xs := .inl hyy
  clear h hq hyp hyy hw hb
  have HAh : Hid (∀ (V : World), CmB W xs a cap p ⟨ts, ws, true⟩ tv wv V → _) := fun V hV => bindAhead_any W xs a cap p N ts ws y tv wv V ho (by omega) hy hI hV
  obtain ⟨TS, hTS⟩ : ∃ TS, TS = (bind13 y ts ws).1 := ⟨_, rfl⟩
  have HTS : Hid (TS = (bind13 y ts ws).1) := hTS
  rw [← hTS]
  clear hTS ho hI hy
  go_enter Try.func18, Try.ntmps18
  go_wp2_with (go_at_call 31; refine (HOp.out ()).mono ?_; rintro e w1 ⟨rfl, hb1⟩; have B1 : Below w1.heap.size w1 (w1.alloc (.cells #[.string y.sign, .int .i64 y.level, .bool y.right] 27)) := (Below.refl w1.heap.size w1).alloc (Nat.le_refl _) _; have H1 : Hid (CmB W xs a cap p ⟨ts, ws, true⟩ tv wv (w1.alloc (.cells #[.string y.sign, .int .i64 y.level, .bool y.right] 27))) := HC.out.below (hb1.trans (B1.mono hb1.size)); have X1 : Hid ((w1.alloc (.cells #[.string y.sign, .int .i64 y.level, .bool y.right] 27)).heap[w1.heap.size]? = some (.cells #[.string y.sign, .int .i64 y.level, .bool y.right] 27 (0, 0))) := heap_alloc_new w1 _; have c3 := run_cell (j := 3) H1.out.box rfl; have y0 := run_cell (j := 0) X1.out rfl; have y1 := run_cell (j := 1) X1.out rfl; have y2 := run_cell (j := 2) X1.out rfl; clear B1 hb1)
  generalize (w1.alloc (.cells #[.string y.sign, .int .i64 y.level, .bool y.right] 27)) = w2 at *
  generalize w1.heap.size = bx at *
  refine (HAh.out _ H1.out).mono ?_
  rintro e w3 ⟨rfl, ⟨hI3, tv3, wv3, hC3⟩, hF3⟩
  have X3 : Hid (w3.heap[bx]? = some (.cells #[.string y.sign, .int .i64 y.level, .bool y.right] 27 (0, 0))) := hF3.typ _ _ _ _ X1.out (by decide)
  unfold bound13 at hI3 hC3
  rw [← HTS.out, HW.out] at hI3 hC3
  have hwl : r.length ≤ 100 := by
    have h4 := (hI3.small (by omega)).1
    simp at h4
    omega
  have HI3 : Hid (Inv13 xs (N + 1) ⟨TS, r, true⟩) := drop_inv HO.out HI.out (by rw [← HYy.out]; exact HW.out) hI3
  have HD : Hid (∀ _ : Unit, _) := fun _ => drop_cons W xs a cap p TS x r true tv3 wv3 w3 hwl hC3
  clear hI3 hC3 hF3 X3 HAh HOp HC H1 X1 c3 y0 y1 y2
  go_wp2_with (go_at_call 33; refine (HD.out ()).mono ?_; rintro e w4 ⟨rfl, wv4, hC4⟩)
  go_ret
  exact ⟨rfl, HI3.out, _, _, hC4⟩

end Go.Proofs.Ytkojkicfibmjdaa
