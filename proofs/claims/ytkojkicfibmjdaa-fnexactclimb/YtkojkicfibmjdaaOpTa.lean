/- The program's climb: an operator behind a thing is taken (printed by mk/optk.py). -/
import Derived.Test.YtkojkicfibmjdaaOpTk
namespace Go.Proofs.Ytkojkicfibmjdaa
open Go.RowKit
set_option linter.unusedVariables false

set_option maxHeartbeats 6400000 in
set_option maxRecDepth 100000 in
theorem takeA (W : World) (xs : List OpD) (a : Option Addr) (cap p N : Nat) (ts : List ByteArray) (ws : List OpD) (tv wv : Value) (b : UInt8) (w : World) (ho : opsB xs = true) (hN : N ≤ 11) (hq : (opAt13 xs b).2 = true) (hI : Inv13 xs N ⟨ts, ws, true⟩) (h : CmB W xs a cap p ⟨ts, ws, true⟩ tv wv w) :
    Calls Try.prog 18 #[.pointer (some ⟨p, 0, none⟩), .int .u8 (b.toNat : Int)] w fun e w' => e = .returned (.bool true) ∧ TakeP W xs a cap p N ⟨(bind13 (opAt13 xs b).1 ts ws).1, (opAt13 xs b).1 :: (bind13 (opAt13 xs b).1 ts ws).2, false⟩ w' := by
  obtain ⟨r0, hr, hr0, hr1, hr2⟩ := info_parts Try.infoOpT
  have HOp : Hid (∀ _ : Unit, _) := fun _ => opOfI_any W xs a cap p ⟨ts, ws, true⟩ tv wv b w ho h
  have HC : Hid (CmB W xs a cap p ⟨ts, ws, true⟩ tv wv w) := h
  have hyx : (opAt13 xs b).1 ∈ xs := by
    rcases opAt_cases xs b with ⟨_, e⟩ | ⟨h1, _⟩
    · rw [hq] at e; cases e
    · exact h1
  rw [hq] at HOp
  clear h hq
  generalize (opAt13 xs b).1 = y at *
  have hy : y = par13 ∨ y ∈ xs := .inr hyx
  have hreal : real13 y = true := real_of ho hyx
  have HAh : Hid (∀ (V : World), CmB W xs a cap p ⟨ts, ws, true⟩ tv wv V → _) := fun V hV => bindAhead_any W xs a cap p N ts ws y tv wv V ho (by omega) hy hI hV
  have hw0 : True := trivial
  obtain ⟨TS, hTS⟩ : ∃ TS, TS = (bind13 y ts ws).1 := ⟨_, rfl⟩
  obtain ⟨WS, hWS⟩ : ∃ WS, WS = (bind13 y ts ws).2 := ⟨_, rfl⟩
  have HTS : Hid (TS = (bind13 y ts ws).1) := hTS
  have HWS : Hid (WS = (bind13 y ts ws).2) := hWS
  rw [← hTS, ← hWS]
  clear hTS hWS ho hI hw0
  go_enter Try.func18, Try.ntmps18
  go_wp2_with (go_at_call 31; refine (HOp.out ()).mono ?_; rintro e w1 ⟨rfl, hb1⟩; have B1 : Below w1.heap.size w1 (w1.alloc (.cells #[.string y.sign, .int .i64 y.level, .bool y.right] 27)) := (Below.refl w1.heap.size w1).alloc (Nat.le_refl _) _; have H1 : Hid (CmB W xs a cap p ⟨ts, ws, true⟩ tv wv (w1.alloc (.cells #[.string y.sign, .int .i64 y.level, .bool y.right] 27))) := HC.out.below (hb1.trans (B1.mono hb1.size)); have X1 : Hid ((w1.alloc (.cells #[.string y.sign, .int .i64 y.level, .bool y.right] 27)).heap[w1.heap.size]? = some (.cells #[.string y.sign, .int .i64 y.level, .bool y.right] 27 (0, 0))) := heap_alloc_new w1 _; have c3 := run_cell (j := 3) H1.out.box rfl; have y0 := run_cell (j := 0) X1.out rfl; have y1 := run_cell (j := 1) X1.out rfl; have y2 := run_cell (j := 2) X1.out rfl; clear B1 hb1)
  generalize (w1.alloc (.cells #[.string y.sign, .int .i64 y.level, .bool y.right] 27)) = w2 at *
  generalize w1.heap.size = bx at *
  refine (HAh.out _ H1.out).mono ?_
  rintro e w3 ⟨rfl, ⟨hI3, tv3, wv3, hC3⟩, hF3⟩
  have X3 : Hid (w3.heap[bx]? = some (.cells #[.string y.sign, .int .i64 y.level, .bool y.right] 27 (0, 0))) := hF3.typ _ _ _ _ X1.out (by decide)
  unfold bound13 at hI3 hC3
  rw [← HTS.out, ← HWS.out] at hI3 hC3
  have HI3 : Hid (Inv13 xs N ⟨TS, WS, true⟩) := hI3
  have hwl : WS.length ≤ 16 := (hI3.small (by omega)).1
  obtain ⟨aw, cw, rfl⟩ := own_shape13 hC3.wts
  have H3 : Hid (CmB W xs a cap p ⟨TS, WS, true⟩ tv3 (.slice aw WS.length cw) w3) := hC3
  have HN2 : Hid (Inv13 xs (N + 1) ⟨TS, y :: WS, false⟩) := by
    refine ⟨?_, ?_, fun z hz => ?_⟩
    · have := hI3.num
      simp only [List.filter_cons, hreal, if_true, List.length_cons] at this ⊢
      simpa using this
    · have h2 : sizes13 TS + 3 * WS.length ≤ 4 * N := hI3.sz
      show sizes13 TS + 3 * (WS.length + 1) ≤ 4 * (N + 1)
      omega
    · rcases List.mem_cons.1 hz with rfl | hz
      · exact .inr hyx
      · exact hI3.wt z hz
  clear hI3 hC3 hF3 HAh HOp HC H1 X1 c3 y0 y1 y2
  go_wp2
  have c2 : w3.cell? ⟨p, 2, none⟩ = some (.slice aw WS.length cw) := run_cell H3.out.box rfl
  have x0 := run_cell (j := 0) X3.out rfl
  have x1 := run_cell (j := 1) X3.out rfl
  have x2 := run_cell (j := 2) X3.out rfl
  refine wp_region_K (k := 7) (S := fun V => V.cell? ⟨p, 2, none⟩ = some (.slice aw WS.length cw) ∧ V.cell? ⟨bx, 0, none⟩ = some (.string y.sign) ∧ V.cell? ⟨bx, 1, none⟩ = some (.int .i64 y.level) ∧ V.cell? ⟨bx, 2, none⟩ = some (.bool y.right)) (by kernel_rfl) ?_ (fun hHeld hcl => ?_)
  · exact ⟨c2, x0, x1, x2⟩
  refine wpAnyK_free (i := 0) (d := some 54) (v := ?q7v0) (by assumption) rfl (by kernel_rfl) (by kernel_rfl) (by kernel_rfl) (by decide) (by rfl) (fun _ _ _ h => h) (Or.inl ⟨by rfl, ?q7h0⟩) (.inr (by assumption)) (fun hcl0 => ?q7r0)
  case q7h0 => (intro w hSw; (try dsimp only at hSw); go_simp; first | done | with_reducible rfl)
  case' q7r0 => (clear hcl; simp only [Act.put, List.setIfInBounds_toArray, List.set_cons_zero, List.set_cons_succ])
  refine wpAnyK_free (i := 1) (d := some 55) (v := ?q7v1) (by assumption) rfl (by kernel_rfl) (by kernel_rfl) (by kernel_rfl) (by decide) (by rfl) (fun _ _ _ h => h) (Or.inl ⟨by rfl, ?q7h1⟩) (.inr (by assumption)) (fun hcl1 => ?q7r1)
  case q7h1 => (intro w hSw; (try dsimp only at hSw); go_simp; first | done | with_reducible rfl)
  case' q7r1 => (clear hcl0; simp only [Act.put, List.setIfInBounds_toArray, List.set_cons_zero, List.set_cons_succ])
  refine wpAnyK_free (i := 2) (d := some 56) (v := ?q7v2) (by assumption) rfl (by kernel_rfl) (by kernel_rfl) (by kernel_rfl) (by decide) (by rfl) (fun _ _ _ h => h) (Or.inl ⟨by rfl, ?q7h2⟩) (.inr (by assumption)) (fun hcl2 => ?q7r2)
  case q7h2 => (intro w hSw; (try dsimp only at hSw); go_simp; first | done | with_reducible rfl)
  case' q7r2 => (clear hcl1; simp only [Act.put, List.setIfInBounds_toArray, List.set_cons_zero, List.set_cons_succ])
  refine wpAnyK_free (i := 3) (d := some 57) (v := ?q7v3) (by assumption) rfl (by kernel_rfl) (by kernel_rfl) (by kernel_rfl) (by decide) (by rfl) (fun _ _ _ h => h) (Or.inl ⟨by rfl, ?q7h3⟩) (.inr (by assumption)) (fun hcl3 => ?q7r3)
  case q7h3 => (intro w hSw; (try dsimp only at hSw); go_simp; first | done | with_reducible rfl)
  case' q7r3 => (clear hcl2; simp only [Act.put, List.setIfInBounds_toArray, List.set_cons_zero, List.set_cons_succ])
  refine wpAnyK_take [4] (i := 4) (d := some 58) (v := ?q7v4) (by assumption) rfl (by kernel_rfl) (by kernel_rfl) (by kernel_rfl) (by kernel_rfl) (by kernel_rfl) (by decide) (by rfl) (fun _ _ _ h => h) (Or.inl ⟨by rfl, ?q7h4⟩) (by assumption) (fun hcl4 => ?q7r4)
  case q7h4 => (intro w hSw; (try dsimp only at hSw); go_simp; first | done | with_reducible rfl)
  case' q7r4 => (clear hcl3; simp only [Act.put, List.setIfInBounds_toArray, List.set_cons_zero, List.set_cons_succ])
  refine wpAnyK_take [6, 5] (i := 5) (d := some 59) (v := ?q7v5) (by assumption) rfl (by kernel_rfl) (by kernel_rfl) (by kernel_rfl) (by kernel_rfl) (by kernel_rfl) (by decide) (by rfl) (fun _ _ _ h => h) (Or.inl ⟨by rfl, ?q7h5⟩) (by assumption) (fun hcl5 => ?q7r5)
  case q7h5 => (intro w hSw; (try dsimp only at hSw); go_simp; first | done | with_reducible rfl)
  case' q7r5 => (clear hcl4; simp only [Act.put, List.setIfInBounds_toArray, List.set_cons_zero, List.set_cons_succ])
  have bal : Below w3.heap.size w3 (w3.drew.alloc (.cells #[.string y.sign, .int .i64 y.level, .bool y.right] 27)) := (Below.refl w3.heap.size w3).drew.alloc (Nat.le_refl _) _
  refine wpAnyK_one (i := 6) (by assumption) (by kernel_rfl) rfl (fun K hK => ?_)
  go_simp
  refine hK.out _ _ ⟨cell_keep c2 bal, cell_keep x0 bal, cell_keep x1 bal, cell_keep x2 bal⟩ (fun hcl6 => ?_)
  have H3b := H3.out.below bal
  have hw4 : W.heap.size ≤ (w3.drew.alloc (.cells #[.string y.sign, .int .i64 y.level, .bool y.right] 27)).heap.size := H3b.bel.size
  refine wpAnyK_past (i := 7) (by assumption) (by kernel_rfl) rfl (by kernel_rfl) (fun K hK => ?_)
  refine step_append_lies _ (by rfl) _ _ _ (by rfl) W.heap.size 27 r0 _ 3 32 Try.underlying28 hr hr0 hr1 hr2 rfl (by omega) _ _ _ (by rfl) H3b.wts ⟨w3.heap.size, 0, none⟩ 1 1 [.string y.sign, .int .i64 y.level, .bool y.right] (by rfl) (by rfl) (World.news_of_block (cs := #[.string y.sign, .int .i64 y.level, .bool y.right]) (t := 27) (fr := (0, 0)) (heap_alloc_new w3.drew _)) (three13 _ _ _ rfl rfl rfl) (by omega) (by show WS.length + 1 ≤ _; unfold maxLen; omega) (by show (WS.length + 1) * 32 ≤ _; omega) hw4 (w3.heap.size + 1) (by simp [World.drew]) ?_
  intro gg capg w4 hown4 hgrow hat hlt4
  have FG : FrT [27] W.heap.size (w3.drew.alloc (.cells #[.string y.sign, .int .i64 y.level, .bool y.right] 27)) w4 := fr_grown H3b.wts hgrow (by simp) hw4
  have hb4 : w4.heap[p]? = some (.cells #[.slice a xs.length cap, tv3, .slice aw WS.length cw, .bool true] 45 (0, 0)) := FG.typ _ _ _ _ H3b.box (by decide)
  have c4 := run_cell (j := 2) hb4 rfl
  have f4 := run_frozen (j := 2) hb4
  have FS2 : FrT [45] W.heap.size w4 (w4.setCell ⟨p, 2, none⟩ (.slice (some ⟨gg, 0, none⟩) (WS.length + 1) capg)) := fr_set _ hb4 (by simp) H3b.le
  have HF : Hid (CmB W xs a cap p ⟨TS, y :: WS, true⟩ tv3 (.slice (some ⟨gg, 0, none⟩) (WS.length + 1) capg) (w4.setCell ⟨p, 2, none⟩ (.slice (some ⟨gg, 0, none⟩) (WS.length + 1) capg))) :=
    ⟨(H3b.bel.trans FG.bel).trans FS2.bel, H3b.le, H3b.ops, setCell_self (j := 2) _ hb4, own_frT (own_frT H3b.ths FG (by decide)) FS2 (by decide), own_frT (by
      show w4.ownsRow _ _ _ _ (y :: WS).length (ov (y :: WS).reverse)
      rw [ov_snoc]
      exact hown4) FS2 (by decide)⟩
  refine hK.out _ _ (fun hcl7 => ?_)
  have hb5 : (w4.setCell ⟨p, 2, none⟩ (.slice (some ⟨gg, 0, none⟩) (WS.length + 1) capg)).heap[p]? = some (.cells #[.slice a xs.length cap, tv3, (.slice (some ⟨gg, 0, none⟩) (WS.length + 1) capg), .bool true] 45 (0, 0)) := HF.out.box
  have c5 := run_cell (j := 3) hb5 rfl
  have f5 := run_frozen (j := 3) hb5
  clear hcl6 hgrow hat hown4 H3b bal FS2 FG c2 x0 x1 x2 hHeld hb5
  refine wpAnyK_past (i := 8) (by assumption) (by kernel_rfl) rfl (by kernel_rfl) (fun K hK => ?_)
  go_simp
  refine hK.out _ _ (fun hcl8 => ?_)
  refine wpAnyK_past (i := 9) (by assumption) (by kernel_rfl) rfl (by kernel_rfl) (fun K hK => ?_)
  go_simp
  refine hK.out _ _ (fun hcl9 => ?_)
  refine wpAnyK_past (i := 10) (by assumption) (by kernel_rfl) rfl (by kernel_rfl) (fun K hK => ?_)
  go_simp
  refine hK.out _ _ (fun hcl10 => ?_)
  refine wpAnyK_done (by kernel_rfl) ?_
  have HG : Hid (CmB W xs a cap p ⟨TS, y :: WS, false⟩ tv3 (.slice (some ⟨gg, 0, none⟩) (WS.length + 1) capg) ((w4.setCell ⟨p, 2, none⟩ (.slice (some ⟨gg, 0, none⟩) (WS.length + 1) capg)).setCell ⟨p, 3, none⟩ (.bool false))) := HF.out.setB false
  clear hcl7 hcl8 hcl9 hcl10 hb4 c4 f4 HF
  generalize (w4.setCell ⟨p, 2, none⟩ (.slice (some ⟨gg, 0, none⟩) (WS.length + 1) capg)) = w5 at *
  go_wp2
  go_ret
  exact ⟨rfl, HN2.out, _, _, HG.out⟩

end Go.Proofs.Ytkojkicfibmjdaa
