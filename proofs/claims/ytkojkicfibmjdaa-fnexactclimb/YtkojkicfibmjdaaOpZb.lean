/- The program's climb: the last one that waits is bound; all that bind before the next one are. -/
import Derived.Test.YtkojkicfibmjdaaOpZ
import Derived.Test.YtkojkicfibmjdaaOrK
namespace Go.Proofs.Ytkojkicfibmjdaa
open Go.RowKit
set_option linter.unusedVariables false

theorem Try.infoStrZ : (Try.prog.info? 9).map (fun i => (i.zero, i.size, i.bytes)) = some (some (.string ⟨#[]⟩), 1, 16) := by kernel_rfl
theorem sv_app (a b : List ByteArray) : sv13 (a ++ b) = sv13 a ++ sv13 b := by simp [sv13]
theorem ov_last (ws : List OpD) (x : OpD) : (ov (x :: ws).reverse)[ws.length * 3]? = some (.string x.sign) ∧ (ov (x :: ws).reverse)[ws.length * 3 + 1]? = some (.int .i64 x.level) ∧ (ov (x :: ws).reverse)[ws.length * 3 + 2]? = some (.bool x.right) := by
  have h := ov_at (x :: ws).reverse ws.length (by simp)
  have e : ((x :: ws).reverse)[ws.length]'(by simp) = x := by simp
  rw [e] at h
  exact h
theorem sv_len (a : List ByteArray) : (sv13 a).length = a.length := by simp [sv13]

set_option maxHeartbeats 6400000 in
set_option maxRecDepth 100000 in
theorem bindLast_any (W : World) (xs : List OpD) (a : Option Addr) (cap p : Nat) (b s : ByteArray) (r : List ByteArray) (x : OpD) (ws : List OpD) (bh : Bool) (tv wv : Value) (w : World) (hsz : s.size + b.size ≤ 1000) (hx : x.sign.size ≤ 1000) (hr : r.length ≤ 1000) (hw : ws.length ≤ 1000)
    (h : CmB W xs a cap p ⟨b :: s :: r, x :: ws, bh⟩ tv wv w) :
    Calls Try.prog 46 #[.pointer (some ⟨p, 0, none⟩)] w fun e w' => e = .returned (.tuple #[]) ∧ (∃ tv' wv', CmB W xs a cap p ⟨two13 s x b :: r, ws, bh⟩ tv' wv' w') ∧ FrC W.heap.size w w' := by
  obtain ⟨i0, hi, hz0, hz1, hz2⟩ := info_parts Try.infoStrZ
  have H : Hid (CmB W xs a cap p ⟨b :: s :: r, x :: ws, bh⟩ tv wv w) := h
  obtain ⟨gt, ct, rfl, hct, hgt⟩ := own_some13 h.ths (by simp)
  obtain ⟨gw, cw, rfl, hcw, hgw⟩ := own_some13 h.wts (by simp)
  have et : (b :: s :: r).reverse = r.reverse ++ [s, b] := by simp
  have ew : (x :: ws).reverse = ws.reverse ++ [x] := by simp
  obtain ⟨d0, d1, d2⟩ := ov_last ws x
  have t0' : (sv13 (r.reverse ++ [s, b]))[r.length]? = some (.string s) := by simp [sv13]
  have t1' : (sv13 (r.reverse ++ [s, b]))[r.length + 1]? = some (.string b) := by simp [sv13]
  rw [← et] at t0' t1'
  have t0 := own_at13 h.ths _ _ t0'
  have t1 := own_at13 h.ths _ _ t1'
  have n0 := own_at13 h.wts _ _ d0
  have n1 := own_at13 h.wts _ _ d1
  have n2 := own_at13 h.wts _ _ d2
  have HTk : Hid (w.ownsRow W.heap.size 9 1 (.slice (some ⟨gt, 0, none⟩) r.length ct) r.length (sv13 r.reverse)) := own_take13 h.ths (by show r.length ≤ r.length + 1 + 1; omega) (by rw [et, sv_app]; exact List.take_left' (by rw [sv_len]; simp))
  have HWk : Hid (w.ownsRow W.heap.size 27 3 (.slice (some ⟨gw, 0, none⟩) ws.length cw) ws.length (ov ws.reverse)) := own_take13 h.wts (by simp) (by rw [ew, ov_app]; exact List.take_left' (by rw [ov_len]; simp))
  have c1 : w.cell? ⟨p, 1, none⟩ = some (.slice (some ⟨gt, 0, none⟩) (b :: s :: r).length ct) := run_cell h.box rfl
  have c2 : w.cell? ⟨p, 2, none⟩ = some (.slice (some ⟨gw, 0, none⟩) (x :: ws).length cw) := run_cell h.box rfl
  have f2 : w.frozen? ⟨p, 2, none⟩ = false := run_frozen h.box
  clear et ew d0 d1 d2 t0' t1' h
  have hct : (b :: s :: r).length ≤ ct := hct
  have hcw : (x :: ws).length ≤ cw := hcw
  generalize hnt : (b :: s :: r).length = nt at *
  generalize hnw : (x :: ws).length = nw at *
  generalize hlt : r.length = lt at *
  generalize hmw : ws.length = mw at *
  have e1 : nt = lt + 2 := by rw [← hnt, ← hlt]; simp
  have e2 : nw = mw + 1 := by rw [← hnw, ← hmw]; simp
  have Hlt : Hid (r.length = lt) := hlt
  have Hmw : Hid (ws.length = mw) := hmw
  obtain ⟨mt, hmt⟩ : ∃ mt, mt = lt + 1 := ⟨_, rfl⟩
  rw [← hmt] at t1
  have i1 : IntKind.i64.wrap ((nt : Int) - 1) = (mt : Int) := by rw [IntKind.wrap_i64]; omega
  have i2 : IntKind.i64.wrap ((mt : Int) - 1) = (lt : Int) := by rw [IntKind.wrap_i64]; omega
  have i3 : IntKind.i64.wrap ((nw : Int) - 1) = (mw : Int) := by rw [IntKind.wrap_i64]; omega
  have j1 : (mt : Int) < (nt : Int) := by omega
  have j2 : (lt : Int) < (nt : Int) := by omega
  have j3 : (mw : Int) < (nw : Int) := by omega
  have j4 : (lt : Int) ≤ (ct : Int) := by omega
  have j5 : (mw : Int) ≤ (cw : Int) := by omega
  have j4' : lt ≤ ct := by omega
  have j5' : mw ≤ cw := by omega
  have Hhr : Hid (lt ≤ 1000) := hr
  have He : Hid (nt = lt + 2 ∧ nw = mw + 1 ∧ mt = lt + 1) := ⟨e1, e2, hmt⟩
  clear hnt hnw hlt hmw e1 e2 hmt
  go_enter Try.func46, Try.ntmps46
  go_wp2
  go_region_held3 (fun V => V.cell? ⟨p, 2, none⟩ = some (.slice (some ⟨gw, 0, none⟩) nw cw) ∧ V.cell? ⟨gw, mw * 3, none⟩ = some (.string x.sign) ∧ V.cell? ⟨gw, mw * 3 + 1, none⟩ = some (.int .i64 x.level) ∧ V.cell? ⟨gw, mw * 3 + 2, none⟩ = some (.bool x.right)) (go_keep) (fail)
  have BL : Below w.heap.size w (w.alloc (.cells #[.string x.sign, .int .i64 x.level, .bool x.right] 27)).drew := bel_drewO ((Below.refl _ _).alloc (Nat.le_refl _) _)
  have H1 : Hid (CmB W xs a cap p ⟨b :: s :: r, x :: ws, bh⟩ (.slice (some ⟨gt, 0, none⟩) nt ct) (.slice (some ⟨gw, 0, none⟩) nw cw) (w.alloc (.cells #[.string x.sign, .int .i64 x.level, .bool x.right] 27)).drew) := H.out.below BL
  have X1 : Hid ((w.alloc (.cells #[.string x.sign, .int .i64 x.level, .bool x.right] 27)).drew.heap[w.heap.size]? = some (.cells #[.string x.sign, .int .i64 x.level, .bool x.right] 27 (0, 0))) := heap_alloc_new w _
  have F1 : Hid (FrC W.heap.size w (w.alloc (.cells #[.string x.sign, .int .i64 x.level, .bool x.right] 27)).drew) := H.out.frb BL
  have T1 : Hid ((w.alloc (.cells #[.string x.sign, .int .i64 x.level, .bool x.right] 27)).drew.ownsRow W.heap.size 9 1 (.slice (some ⟨gt, 0, none⟩) lt ct) lt (sv13 r.reverse)) := own_frT HTk.out (FrT.below (ts := []) BL H.out.bel.size) (by simp)
  have K1 : Hid ((w.alloc (.cells #[.string x.sign, .int .i64 x.level, .bool x.right] 27)).drew.ownsRow W.heap.size 27 3 (.slice (some ⟨gw, 0, none⟩) mw cw) mw (ov ws.reverse)) := own_frT HWk.out (FrT.below (ts := []) BL H.out.bel.size) (by simp)
  clear BL HTk HWk c1 c2 f2 t0 t1 n0 n1 n2
  generalize (w.alloc (.cells #[.string x.sign, .int .i64 x.level, .bool x.right] 27)).drew = w1 at *
  have c2 : w1.cell? ⟨p, 2, none⟩ = some (.slice (some ⟨gw, 0, none⟩) nw cw) := run_cell H1.out.box rfl
  have f2 : w1.frozen? ⟨p, 2, none⟩ = false := run_frozen H1.out.box
  generalize hbx : w.heap.size = bx at *
  have HBx : Hid _ := hbx
  clear hbx
  go_wp2
  go_region
  have F2 : Hid (FrC W.heap.size w (w1.setCell ⟨p, 2, none⟩ (.slice (some ⟨gw, 0, none⟩) mw cw)).drew) := F1.out.trans (FrT.new (H1.out.frs 2 _) (bel_drewO (Below.refl _ _)) (H1.out.bel.size))
  have BD : Below (w1.setCell ⟨p, 2, none⟩ (.slice (some ⟨gw, 0, none⟩) mw cw)).heap.size (w1.setCell ⟨p, 2, none⟩ (.slice (some ⟨gw, 0, none⟩) mw cw)) (w1.setCell ⟨p, 2, none⟩ (.slice (some ⟨gw, 0, none⟩) mw cw)).drew := bel_drewO (Below.refl _ _)
  have H2 : Hid (CmB W xs a cap p ⟨b :: s :: r, ws, bh⟩ (.slice (some ⟨gt, 0, none⟩) nt ct) (.slice (some ⟨gw, 0, none⟩) mw cw) (w1.setCell ⟨p, 2, none⟩ (.slice (some ⟨gw, 0, none⟩) mw cw)).drew) := (H1.out.setW (ws' := ws) (by rw [Hmw.out]; exact K1.out)).below BD
  have X2 : Hid ((w1.setCell ⟨p, 2, none⟩ (.slice (some ⟨gw, 0, none⟩) mw cw)).drew.heap[bx]? = some (.cells #[.string x.sign, .int .i64 x.level, .bool x.right] 27 (0, 0))) := (H1.out.frs 2 _).typ _ _ _ _ X1.out (by decide)
  have T2 : Hid ((w1.setCell ⟨p, 2, none⟩ (.slice (some ⟨gw, 0, none⟩) mw cw)).drew.ownsRow W.heap.size 9 1 (.slice (some ⟨gt, 0, none⟩) lt ct) lt (sv13 r.reverse)) := by
    have T2a : (w1.setCell ⟨p, 2, none⟩ (.slice (some ⟨gw, 0, none⟩) mw cw)).ownsRow W.heap.size 9 1 (.slice (some ⟨gt, 0, none⟩) lt ct) lt (sv13 r.reverse) := own_frT T1.out (fr_set (ts := [45]) (j := 2) _ H1.out.box (by simp) H1.out.le) (by decide)
    exact T2a
  clear BD H1 X1 T1 K1 F1 c2 f2
  generalize (w1.setCell ⟨p, 2, none⟩ (.slice (some ⟨gw, 0, none⟩) mw cw)).drew = w2 at *
  have c1 : w2.cell? ⟨p, 1, none⟩ = some (.slice (some ⟨gt, 0, none⟩) nt ct) := run_cell H2.out.box rfl
  have x0 := run_cell (j := 0) X2.out rfl
  have x1 := run_cell (j := 1) X2.out rfl
  have x2 := run_cell (j := 2) X2.out rfl
  have t0 : w2.cell? ⟨gt, lt, none⟩ = some (.string s) := own_at13 H2.out.ths _ _ (by show (sv13 (b :: s :: r).reverse)[lt]? = _; rw [← Hlt.out]; simp [sv13])
  have t1 : w2.cell? ⟨gt, mt, none⟩ = some (.string b) := own_at13 H2.out.ths _ _ (by show (sv13 (b :: s :: r).reverse)[mt]? = _; rw [He.out.2.2, ← Hlt.out]; simp [sv13])
  have HBd : Hid (∀ V : World, _) := fun V => bound_any s b x V hsz hx
  generalize hS2 : two13 s x b = S2 at *
  have Hw2 : Hid (W.heap.size ≤ w2.heap.size) := H2.out.bel.size
  have HS2 : Hid (two13 s x b = S2) := hS2
  clear hS2
  have hpb : ¬ bx = p := by
    intro e
    have h1 := X2.out
    rw [e, H2.out.box] at h1
    cases Option.some.inj h1
  go_wp2
  refine wp_region_K (k := 26) (S := fun V => V.cell? ⟨p, 1, none⟩ = some (.slice (some ⟨gt, 0, none⟩) nt ct) ∧ V.cell? ⟨gt, lt, none⟩ = some (.string s) ∧ V.cell? ⟨gt, mt, none⟩ = some (.string b) ∧ V.cell? ⟨bx, 0, none⟩ = some (.string x.sign) ∧ V.cell? ⟨bx, 1, none⟩ = some (.int .i64 x.level) ∧ V.cell? ⟨bx, 2, none⟩ = some (.bool x.right)) (by kernel_rfl) ?_ (fun hHeld hcl => ?_)
  · exact ⟨c1, t0, t1, x0, x1, x2⟩
  refine wpAnyK_free (i := 0) (d := some 36) (v := ?v0) (by assumption) rfl (by kernel_rfl) (by kernel_rfl) (by kernel_rfl) (by decide) (by rfl) (fun _ _ _ h => h) (Or.inl ⟨by rfl, ?h0⟩) (.inr (by assumption)) (fun hcl0 => ?r0)
  case h0 => (intro w hSw; (try dsimp only at hSw); go_simp; first | done | with_reducible rfl)
  case' r0 => (clear hcl; simp only [Act.put, List.setIfInBounds_toArray, List.set_cons_zero, List.set_cons_succ])
  refine wpAnyK_free (i := 1) (d := some 37) (v := ?v1) (by assumption) rfl (by kernel_rfl) (by kernel_rfl) (by kernel_rfl) (by decide) (by rfl) (fun _ _ _ h => h) (Or.inl ⟨by rfl, ?h1⟩) (.inr (by assumption)) (fun hcl1 => ?r1)
  case h1 => (intro w hSw; (try dsimp only at hSw); go_simp; first | done | with_reducible rfl)
  case' r1 => (clear hcl0; simp only [Act.put, List.setIfInBounds_toArray, List.set_cons_zero, List.set_cons_succ])
  refine wpAnyK_free (i := 2) (d := some 38) (v := ?v2) (by assumption) rfl (by kernel_rfl) (by kernel_rfl) (by kernel_rfl) (by decide) (by rfl) (fun _ _ _ h => h) (Or.inl ⟨by rfl, ?h2⟩) (.inr (by assumption)) (fun hcl2 => ?r2)
  case h2 => (intro w hSw; (try dsimp only at hSw); go_simp; first | done | with_reducible rfl)
  case' r2 => (clear hcl1; simp only [Act.put, List.setIfInBounds_toArray, List.set_cons_zero, List.set_cons_succ])
  refine wpAnyK_free (i := 3) (d := some 39) (v := ?v3) (by assumption) rfl (by kernel_rfl) (by kernel_rfl) (by kernel_rfl) (by decide) (by rfl) (fun _ _ _ h => h) (Or.inl ⟨by rfl, ?h3⟩) (.inr (by assumption)) (fun hcl3 => ?r3)
  case h3 => (intro w hSw; (try dsimp only at hSw); go_simp; first | done | with_reducible rfl)
  case' r3 => (clear hcl2; simp only [Act.put, List.setIfInBounds_toArray, List.set_cons_zero, List.set_cons_succ])
  refine wpAnyK_take [7, 4] (i := 4) (d := some 40) (v := ?v4) (by assumption) rfl (by kernel_rfl) (by kernel_rfl) (by kernel_rfl) (by kernel_rfl) (by kernel_rfl) (by decide) (by rfl) (fun _ _ _ h => h) (Or.inl ⟨by rfl, ?h4⟩) (by assumption) (fun hcl4 => ?r4)
  case h4 => (intro w hSw; (try dsimp only at hSw); go_simp; first | done | with_reducible rfl)
  case' r4 => (clear hcl3; simp only [Act.put, List.setIfInBounds_toArray, List.set_cons_zero, List.set_cons_succ])
  refine wpAnyK_free (i := 5) (d := some 41) (v := ?v5) (by assumption) rfl (by kernel_rfl) (by kernel_rfl) (by kernel_rfl) (by decide) (by rfl) (fun _ _ _ h => h) (Or.inl ⟨by rfl, ?h5⟩) (.inr (by assumption)) (fun hcl5 => ?r5)
  case h5 => (intro w hSw; (try dsimp only at hSw); go_simp; first | done | with_reducible rfl)
  case' r5 => (clear hcl4; simp only [Act.put, List.setIfInBounds_toArray, List.set_cons_zero, List.set_cons_succ])
  refine wpAnyK_free (i := 6) (d := some 42) (v := ?v6) (by assumption) rfl (by kernel_rfl) (by kernel_rfl) (by kernel_rfl) (by decide) (by rfl) (fun _ _ _ h => h) (Or.inl ⟨by rfl, ?h6⟩) (.inr (by assumption)) (fun hcl6 => ?r6)
  case h6 => (intro w hSw; (try dsimp only at hSw); go_simp; first | done | with_reducible rfl)
  case' r6 => (clear hcl5; simp only [Act.put, List.setIfInBounds_toArray, List.set_cons_zero, List.set_cons_succ])
  refine wpAnyK_free (i := 7) (d := some 43) (v := ?v7) (by assumption) rfl (by kernel_rfl) (by kernel_rfl) (by kernel_rfl) (by decide) (by rfl) (fun _ _ _ h => h) (Or.inl ⟨by rfl, ?h7⟩) (.inr (by assumption)) (fun hcl7 => ?r7)
  case h7 => (intro w hSw; (try dsimp only at hSw); go_simp; first | done | with_reducible rfl)
  case' r7 => (clear hcl6; simp only [Act.put, List.setIfInBounds_toArray, List.set_cons_zero, List.set_cons_succ])
  refine wpAnyK_free (i := 8) (d := some 44) (v := ?v8) (by assumption) rfl (by kernel_rfl) (by kernel_rfl) (by kernel_rfl) (by decide) (by rfl) (fun _ _ _ h => h) (Or.inl ⟨by rfl, ?h8⟩) (.inr (by assumption)) (fun hcl8 => ?r8)
  case h8 => (intro w hSw; (try dsimp only at hSw); go_simp; first | done | with_reducible rfl)
  case' r8 => (clear hcl7; simp only [Act.put, List.setIfInBounds_toArray, List.set_cons_zero, List.set_cons_succ])
  refine wpAnyK_free (i := 9) (d := some 45) (v := ?v9) (by assumption) rfl (by kernel_rfl) (by kernel_rfl) (by kernel_rfl) (by decide) (by rfl) (fun _ _ _ h => h) (Or.inl ⟨by rfl, ?h9⟩) (.inr (by assumption)) (fun hcl9 => ?r9)
  case h9 => (intro w hSw; (try dsimp only at hSw); go_simp; first | done | with_reducible rfl)
  case' r9 => (clear hcl8; simp only [Act.put, List.setIfInBounds_toArray, List.set_cons_zero, List.set_cons_succ])
  refine wpAnyK_free (i := 10) (d := some 46) (v := ?v10) (by assumption) rfl (by kernel_rfl) (by kernel_rfl) (by kernel_rfl) (by decide) (by rfl) (fun _ _ _ h => h) (Or.inl ⟨by rfl, ?h10⟩) (.inr (by assumption)) (fun hcl10 => ?r10)
  case h10 => (intro w hSw; (try dsimp only at hSw); go_simp; first | done | with_reducible rfl)
  case' r10 => (clear hcl9; simp only [Act.put, List.setIfInBounds_toArray, List.set_cons_zero, List.set_cons_succ])
  refine wpAnyK_take [25, 24, 15, 14, 11] (i := 11) (d := some 47) (v := ?v11) (by assumption) rfl (by kernel_rfl) (by kernel_rfl) (by kernel_rfl) (by kernel_rfl) (by kernel_rfl) (by decide) (by rfl) (fun _ _ _ h => h) (Or.inl ⟨by rfl, ?h11⟩) (by assumption) (fun hcl11 => ?r11)
  case h11 => (intro w hSw; (try dsimp only at hSw); go_simp; first | done | with_reducible rfl)
  case' r11 => (clear hcl10; simp only [Act.put, List.setIfInBounds_toArray, List.set_cons_zero, List.set_cons_succ])
  refine wpAnyK_free (i := 12) (d := some 48) (v := ?v12) (by assumption) rfl (by kernel_rfl) (by kernel_rfl) (by kernel_rfl) (by decide) (by rfl) (fun _ _ _ h => h) (Or.inl ⟨by rfl, ?h12⟩) (.inr (by assumption)) (fun hcl12 => ?r12)
  case h12 => (intro w hSw; (try dsimp only at hSw); go_simp; first | done | with_reducible rfl)
  case' r12 => (clear hcl11; simp only [Act.put, List.setIfInBounds_toArray, List.set_cons_zero, List.set_cons_succ])
  refine wpAnyK_free (i := 13) (d := some 49) (v := ?v13) (by assumption) rfl (by kernel_rfl) (by kernel_rfl) (by kernel_rfl) (by decide) (by rfl) (fun _ _ _ h => h) (Or.inl ⟨by rfl, ?h13⟩) (.inr (by assumption)) (fun hcl13 => ?r13)
  case h13 => (intro w hSw; (try dsimp only at hSw); go_simp; first | done | with_reducible rfl)
  case' r13 => (clear hcl12; simp only [Act.put, List.setIfInBounds_toArray, List.set_cons_zero, List.set_cons_succ])
  refine wpAnyK_free (i := 14) (d := some 50) (v := ?v14) (by assumption) rfl (by kernel_rfl) (by kernel_rfl) (by kernel_rfl) (by decide) (by rfl) (fun _ _ _ h => h) (Or.inl ⟨by rfl, ?h14⟩) (.inr (by assumption)) (fun hcl14 => ?r14)
  case h14 => (intro w hSw; (try dsimp only at hSw); go_simp; first | done | with_reducible rfl)
  case' r14 => (clear hcl13; simp only [Act.put, List.setIfInBounds_toArray, List.set_cons_zero, List.set_cons_succ])
  refine wpAnyK_take [25, 24, 15] (i := 15) (d := some 51) (v := ?v15) (by assumption) rfl (by kernel_rfl) (by kernel_rfl) (by kernel_rfl) (by kernel_rfl) (by kernel_rfl) (by decide) (by rfl) (fun _ _ _ h => h) (Or.inl ⟨by rfl, ?h15⟩) (by assumption) (fun hcl15 => ?r15)
  case h15 => (intro w hSw; (try dsimp only at hSw); go_simp; first | done | with_reducible rfl)
  case' r15 => (clear hcl14; simp only [Act.put, List.setIfInBounds_toArray, List.set_cons_zero, List.set_cons_succ])
  refine wpAnyK_take [25, 24, 16] (i := 16) (d := some 52) (v := ?v16) (by assumption) rfl (by kernel_rfl) (by kernel_rfl) (by kernel_rfl) (by kernel_rfl) (by kernel_rfl) (by decide) (by rfl) (fun _ _ _ h => h) (Or.inl ⟨by rfl, ?h16⟩) (by assumption) (fun hcl16 => ?r16)
  case h16 => (intro w hSw; (try dsimp only at hSw); go_simp; first | done | with_reducible rfl)
  case' r16 => (clear hcl15; simp only [Act.put, List.setIfInBounds_toArray, List.set_cons_zero, List.set_cons_succ])
  refine wpAnyK_free (i := 17) (d := some 53) (v := ?v17) (by assumption) rfl (by kernel_rfl) (by kernel_rfl) (by kernel_rfl) (by decide) (by rfl) (fun _ _ _ h => h) (Or.inl ⟨by rfl, ?h17⟩) (.inr (by assumption)) (fun hcl17 => ?r17)
  case h17 => (intro w hSw; (try dsimp only at hSw); go_simp; first | done | with_reducible rfl)
  case' r17 => (clear hcl16; simp only [Act.put, List.setIfInBounds_toArray, List.set_cons_zero, List.set_cons_succ])
  refine wpAnyK_free (i := 18) (d := some 54) (v := ?v18) (by assumption) rfl (by kernel_rfl) (by kernel_rfl) (by kernel_rfl) (by decide) (by rfl) (fun _ _ _ h => h) (Or.inl ⟨by rfl, ?h18⟩) (.inr (by assumption)) (fun hcl18 => ?r18)
  case h18 => (intro w hSw; (try dsimp only at hSw); go_simp; first | done | with_reducible rfl)
  case' r18 => (clear hcl17; simp only [Act.put, List.setIfInBounds_toArray, List.set_cons_zero, List.set_cons_succ])
  refine wpAnyK_free (i := 19) (d := some 55) (v := ?v19) (by assumption) rfl (by kernel_rfl) (by kernel_rfl) (by kernel_rfl) (by decide) (by rfl) (fun _ _ _ h => h) (Or.inl ⟨by rfl, ?h19⟩) (.inr (by assumption)) (fun hcl19 => ?r19)
  case h19 => (intro w hSw; (try dsimp only at hSw); go_simp; first | done | with_reducible rfl)
  case' r19 => (clear hcl18; simp only [Act.put, List.setIfInBounds_toArray, List.set_cons_zero, List.set_cons_succ])
  refine wpAnyK_take [25, 24, 23, 22, 20] (i := 20) (d := some 56) (v := ?v20) (by assumption) rfl (by kernel_rfl) (by kernel_rfl) (by kernel_rfl) (by kernel_rfl) (by kernel_rfl) (by decide) (by rfl) (fun _ _ _ h => h) (Or.inl ⟨by rfl, ?h20⟩) (by assumption) (fun hcl20 => ?r20)
  case h20 => (intro w hSw; (try dsimp only at hSw); go_simp; first | done | with_reducible rfl)
  case' r20 => (clear hcl19; simp only [Act.put, List.setIfInBounds_toArray, List.set_cons_zero, List.set_cons_succ])
  refine wpAnyK_free (i := 21) (d := some 57) (v := ?v21) (by assumption) rfl (by kernel_rfl) (by kernel_rfl) (by kernel_rfl) (by decide) (by rfl) (fun _ _ _ h => h) (Or.inl ⟨by rfl, ?h21⟩) (.inr (by assumption)) (fun hcl21 => ?r21)
  case h21 => (intro w hSw; (try dsimp only at hSw); go_simp; first | done | with_reducible rfl)
  case' r21 => (clear hcl20; simp only [Act.put, List.setIfInBounds_toArray, List.set_cons_zero, List.set_cons_succ])
  refine wpAnyK_free (i := 22) (d := some 58) (v := ?v22) (by assumption) rfl (by kernel_rfl) (by kernel_rfl) (by kernel_rfl) (by decide) (by rfl) (fun _ _ _ h => h) (Or.inl ⟨by rfl, ?h22⟩) (.inr (by assumption)) (fun hcl22 => ?r22)
  case h22 => (intro w hSw; (try dsimp only at hSw); go_simp; first | done | with_reducible rfl)
  case' r22 => (clear hcl21; simp only [Act.put, List.setIfInBounds_toArray, List.set_cons_zero, List.set_cons_succ])
  refine wpAnyK_take [25, 24, 23] (i := 23) (d := some 59) (v := ?v23) (by assumption) rfl (by kernel_rfl) (by kernel_rfl) (by kernel_rfl) (by kernel_rfl) (by kernel_rfl) (by decide) (by rfl) (fun _ _ _ h => h) (Or.inl ⟨by rfl, ?h23⟩) (by assumption) (fun hcl23 => ?r23)
  case h23 => (intro w hSw; (try dsimp only at hSw); go_simp; first | done | with_reducible rfl)
  case' r23 => (clear hcl22; simp only [Act.put, List.setIfInBounds_toArray, List.set_cons_zero, List.set_cons_succ])
  refine wpAnyK_one (i := 24) (by assumption) (by kernel_rfl) rfl (fun K hK => ?_)
  go_simp
  go_at_call 49
  refine (HBd.out _).mono ?_
  rintro e w3 ⟨rfl, hb3⟩
  have B3 : Below w2.heap.size w2 w3 := bel_of_drew hb3
  have H3 := H2.out.below B3
  have T3 := own_frT T2.out (FrT.below (ts := []) B3 Hw2.out) (by simp)
  have h31 := cell_keep c1 B3
  have h32 := cell_keep t0 B3
  have h33 := cell_keep t1 B3
  have h34 := cell_keep x0 B3
  have h35 := cell_keep x1 B3
  have h36 := cell_keep x2 B3
  go_simp
  refine hK.out _ _ ⟨h31, h32, h33, h34, h35, h36⟩ (fun hcl24 => ?_)
  have bal : Below w3.heap.size w3 (w3.alloc (.cells #[.string S2] 9)) := (Below.refl _ _).alloc (Nat.le_refl _) _
  refine wpAnyK_one (i := 25) (by assumption) (by kernel_rfl) rfl (fun K hK => ?_)
  go_simp
  refine hK.out _ _ ⟨cell_keep h31 bal, cell_keep h32 bal, cell_keep h33 bal, cell_keep h34 bal, cell_keep h35 bal, cell_keep h36 bal⟩ (fun hcl25 => ?_)
  have T4 : (w3.alloc (.cells #[.string S2] 9)).ownsRow W.heap.size 9 1 (.slice (some ⟨gt, 0, none⟩) lt ct) lt (sv13 r.reverse) := World.ownsRow.alloc T3 _
  have H4 := H3.below bal
  have hw4 : W.heap.size ≤ (w3.alloc (.cells #[.string S2] 9)).heap.size := H4.bel.size
  refine wpAnyK_past (i := 26) (by assumption) (by kernel_rfl) rfl (by kernel_rfl) (fun K hK => ?_)
  refine step_append_lies _ (by rfl) _ _ _ (by rfl) W.heap.size 9 i0 _ 1 16 Try.underlying43 hi hz0 hz1 hz2 rfl (by omega) _ _ _ (by rfl) T4 ⟨w3.heap.size, 0, none⟩ 1 1 [.string S2] (by rfl) (by rfl) (one_at w3 _ _) (by simp [Value.oneCell']) (by omega) (by unfold maxLen; have := Hhr.out; omega) (by have := Hhr.out; omega) hw4 (w3.heap.size + 1) (by simp) ?_
  intro gg capg w4 hown4 hgrow hat hlt4
  have FG : FrT [9] W.heap.size (w3.alloc (.cells #[.string S2] 9)) w4 := fr_grown T4 hgrow (by simp) hw4
  have hb4 : w4.heap[p]? = some (.cells #[.slice a xs.length cap, .slice (some ⟨gt, 0, none⟩) nt ct, .slice (some ⟨gw, 0, none⟩) mw cw, .bool bh] 45 (0, 0)) := FG.typ _ _ _ _ H4.box (by decide)
  have c4 := run_cell (j := 1) hb4 rfl
  have f4 := run_frozen (j := 1) hb4
  have K4 : w4.ownsRow W.heap.size 27 3 (.slice (some ⟨gw, 0, none⟩) mw cw) ws.length (ov ws.reverse) := own_frT H4.wts FG (by decide)
  have B4 : Below W.heap.size W w4 := H4.bel.trans FG.bel
  have FS2 : FrT [45] W.heap.size w4 (w4.setCell ⟨p, 1, none⟩ (.slice (some ⟨gg, 0, none⟩) (lt + 1) capg)) := fr_set _ hb4 (by simp) H4.le
  have HF : Hid (CmB W xs a cap p ⟨S2 :: r, ws, bh⟩ (.slice (some ⟨gg, 0, none⟩) (lt + 1) capg) (.slice (some ⟨gw, 0, none⟩) mw cw) (w4.setCell ⟨p, 1, none⟩ (.slice (some ⟨gg, 0, none⟩) (lt + 1) capg))) :=
    ⟨B4.trans FS2.bel, H4.le, H4.ops, setCell_self (j := 1) _ hb4, own_frT (by
      have e1 : sv13 (S2 :: r).reverse = sv13 r.reverse ++ [.string S2] := by simp [sv13]
      have e2 : (S2 :: r).length = lt + 1 := by rw [List.length_cons, Hlt.out]
      show w4.ownsRow _ _ _ _ (S2 :: r).length (sv13 (S2 :: r).reverse)
      rw [e1, e2]
      exact hown4) FS2 (by decide), own_frT K4 FS2 (by decide)⟩
  have HFr : Hid (FrC W.heap.size w (w4.setCell ⟨p, 1, none⟩ (.slice (some ⟨gg, 0, none⟩) (lt + 1) capg))) := F2.out.trans ((FrT.new (FrT.new (FrT.refl _ _ _) B3 Hw2.out) (bal.mono B3.size) Hw2.out).trans ((FG.wide (by simp)).trans (FS2.wide (by simp))))
  refine hK.out _ _ (fun hcl26 => ?_)
  clear hcl25 hgrow hat hown4 T4 H4 H3 T3 h31 h32 h33 h34 h35 h36 bal B3 FS2 B4 K4 FG
  refine wpAnyK_past (i := 27) (by assumption) (by kernel_rfl) rfl (by kernel_rfl) (fun K hK => ?_)
  go_simp
  refine hK.out _ _ (fun hcl27 => ?_)
  refine wpAnyK_past (i := 28) (by assumption) (by kernel_rfl) rfl (by kernel_rfl) (fun K hK => ?_)
  go_simp
  refine hK.out _ _ (fun hcl28 => ?_)
  refine wpAnyK_past (i := 29) (by assumption) (by kernel_rfl) rfl (by kernel_rfl) (fun K hK => ?_)
  go_simp
  refine hK.out _ _ (fun hcl29 => ?_)
  refine wpAnyK_done (by kernel_rfl) ?_
  go_wp2
  go_end0
  have HFe := HF.out
  rw [← HS2.out] at HFe
  exact ⟨rfl, ⟨_, _, HFe⟩, HFr.out⟩

end Go.Proofs.Ytkojkicfibmjdaa
