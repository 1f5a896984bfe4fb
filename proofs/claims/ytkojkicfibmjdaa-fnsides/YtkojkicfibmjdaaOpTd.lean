/- The program's climb: a figure is taken; the whole (printed by mk/optk.py). -/
import Derived.Test.YtkojkicfibmjdaaOpTk
namespace Go.Proofs.Ytkojkicfibmjdaa
open Go.RowKit
set_option linter.unusedVariables false

set_option maxHeartbeats 6400000 in
set_option maxRecDepth 100000 in
theorem takeD (W : World) (xs : List OpD) (a : Option Addr) (cap p N : Nat) (ts : List ByteArray) (ws : List OpD) (tv wv : Value) (b : UInt8) (w : World) (ho : opsB xs = true) (hN : N ≤ 11) (hf : fig13 b = true) (hI : Inv13 xs N ⟨ts, ws, false⟩) (h : CmB W xs a cap p ⟨ts, ws, false⟩ tv wv w) :
    Calls Try.prog 18 #[.pointer (some ⟨p, 0, none⟩), .int .u8 (b.toNat : Int)] w fun e w' => e = .returned (.bool true) ∧ TakeP W xs a cap p N ⟨⟨#[b]⟩ :: ts, ws, true⟩ w' := by
  obtain ⟨i0, hi, hz0, hz1, hz2⟩ := info_parts Try.infoStrZ
  have HOp : Hid (∀ _ : Unit, _) := fun _ => opOfI_any W xs a cap p ⟨ts, ws, false⟩ tv wv b w ho h
  obtain ⟨aw, cw, rfl⟩ := own_shape13 h.ths
  have HC : Hid (CmB W xs a cap p ⟨ts, ws, false⟩ (.slice aw ts.length cw) wv w) := h
  have hns : b ∉ signs13 := fun hm => by rw [(sign_nofig hm).1] at hf; cases hf
  have hey : opAt13 xs b = (par13, false) := opAt_not ho hns
  have htl : ts.length ≤ 17 := (hI.small (by omega)).2.1
  have HN : Hid (Inv13 xs (N + 1) ⟨⟨#[b]⟩ :: ts, ws, true⟩) := by
    refine ⟨?_, ?_, hI.wt⟩
    · have := hI.num
      simp only [List.length_cons] at this ⊢
      simpa using this
    · have h2 : sizes13 ts + 3 * ws.length ≤ 4 * N := hI.sz
      have h3 : sizes13 (⟨#[b]⟩ :: ts) = 1 + sizes13 ts := by simp only [sizes13, List.map_cons, List.sum_cons]; rfl
      show sizes13 (⟨#[b]⟩ :: ts) + 3 * ws.length ≤ 4 * (N + 1)
      omega
  rw [hey] at HOp
  have hkf := kind_fig b
  rw [hf] at hkf
  have HKd : Hid (∀ V : World, _) := fun V => kind_any b.toNat b.toNat_lt V
  have HFt : Hid (∀ V : World, _) := fun V => figureText_any b V
  have hfb : 48 ≤ b.toNat := by
    unfold fig13 at hf
    rw [Bool.and_eq_true] at hf
    exact of_decide_eq_true hf.1
  have b40 : ((b.toNat : Int) == 40) = false := by rw [beq_eq_false_iff_ne]; omega
  have b41 : ((b.toNat : Int) == 41) = false := by rw [beq_eq_false_iff_ne]; omega
  obtain ⟨S2, hS2⟩ : ∃ S2 : ByteArray, S2 = ⟨#[b]⟩ := ⟨_, rfl⟩
  rw [← hS2] at HFt HN ⊢
  clear h ho hey hI hns hfb hf hS2
  generalize par13 = y at *
  generalize kindP b.toNat = kp at *
  go_enter Try.func18, Try.ntmps18
  go_wp2_with (first | (go_at_call 34; refine (HKd.out _).mono ?_; rintro e wq ⟨rfl, hw⟩; rw [hw]; clear hw) | (go_at_call 31; refine (HOp.out ()).mono ?_; rintro e w1 ⟨rfl, hb1⟩; have B1 : Below w1.heap.size w1 (w1.alloc (.cells #[.string y.sign, .int .i64 y.level, .bool y.right] 27)) := (Below.refl w1.heap.size w1).alloc (Nat.le_refl _) _; have H1 : Hid (CmB W xs a cap p ⟨ts, ws, false⟩ (.slice aw ts.length cw) wv (w1.alloc (.cells #[.string y.sign, .int .i64 y.level, .bool y.right] 27))) := HC.out.below (hb1.trans (B1.mono hb1.size)); have X1 : Hid ((w1.alloc (.cells #[.string y.sign, .int .i64 y.level, .bool y.right] 27)).heap[w1.heap.size]? = some (.cells #[.string y.sign, .int .i64 y.level, .bool y.right] 27 (0, 0))) := heap_alloc_new w1 _; have c3 := run_cell (j := 3) H1.out.box rfl; have y0 := run_cell (j := 0) X1.out rfl; have y1 := run_cell (j := 1) X1.out rfl; have y2 := run_cell (j := 2) X1.out rfl; clear B1 hb1))
  generalize (w1.alloc (.cells #[.string y.sign, .int .i64 y.level, .bool y.right] 27)) = w2 at *
  generalize w1.heap.size = bx at *
  have c1 : w2.cell? ⟨p, 1, none⟩ = some (.slice aw ts.length cw) := run_cell H1.out.box rfl
  refine wp_region_K (k := 8) (S := fun V => V.cell? ⟨p, 1, none⟩ = some (.slice aw ts.length cw)) (by kernel_rfl) ?_ (fun hHeld hcl => ?_)
  · exact c1
  refine wpAnyK_free (i := 0) (d := some 72) (v := ?q11v0) (by assumption) rfl (by kernel_rfl) (by kernel_rfl) (by kernel_rfl) (by decide) (by rfl) (fun _ _ _ h => h) (Or.inl ⟨by rfl, ?q11h0⟩) (.inr (by assumption)) (fun hcl0 => ?q11r0)
  case q11h0 => (intro w hSw; (try dsimp only at hSw); go_simp; first | done | with_reducible rfl)
  case' q11r0 => (clear hcl; simp only [Act.put, List.setIfInBounds_toArray, List.set_cons_zero, List.set_cons_succ])
  refine wpAnyK_free (i := 1) (d := some 73) (v := ?q11v1) (by assumption) rfl (by kernel_rfl) (by kernel_rfl) (by kernel_rfl) (by decide) (by rfl) (fun _ _ _ h => h) (Or.inl ⟨by rfl, ?q11h1⟩) (.inr (by assumption)) (fun hcl1 => ?q11r1)
  case q11h1 => (intro w hSw; (try dsimp only at hSw); go_simp; first | done | with_reducible rfl)
  case' q11r1 => (clear hcl0; simp only [Act.put, List.setIfInBounds_toArray, List.set_cons_zero, List.set_cons_succ])
  refine wpAnyK_free (i := 2) (d := some 74) (v := ?q11v2) (by assumption) rfl (by kernel_rfl) (by kernel_rfl) (by kernel_rfl) (by decide) (by rfl) (fun _ _ _ h => h) (Or.inl ⟨by rfl, ?q11h2⟩) (.inr (by assumption)) (fun hcl2 => ?q11r2)
  case q11h2 => (intro w hSw; (try dsimp only at hSw); go_simp; first | done | with_reducible rfl)
  case' q11r2 => (clear hcl1; simp only [Act.put, List.setIfInBounds_toArray, List.set_cons_zero, List.set_cons_succ])
  refine wpAnyK_free (i := 3) (d := some 75) (v := ?q11v3) (by assumption) rfl (by kernel_rfl) (by kernel_rfl) (by kernel_rfl) (by decide) (by rfl) (fun _ _ _ h => h) (Or.inl ⟨by rfl, ?q11h3⟩) (.inr (by assumption)) (fun hcl3 => ?q11r3)
  case q11h3 => (intro w hSw; (try dsimp only at hSw); go_simp; first | done | with_reducible rfl)
  case' q11r3 => (clear hcl2; simp only [Act.put, List.setIfInBounds_toArray, List.set_cons_zero, List.set_cons_succ])
  refine wpAnyK_take [4] (i := 4) (d := some 76) (v := ?q11v4) (by assumption) rfl (by kernel_rfl) (by kernel_rfl) (by kernel_rfl) (by kernel_rfl) (by kernel_rfl) (by decide) (by rfl) (fun _ _ _ h => h) (Or.inl ⟨by rfl, ?q11h4⟩) (by assumption) (fun hcl4 => ?q11r4)
  case q11h4 => (intro w hSw; (try dsimp only at hSw); go_simp; first | done | with_reducible rfl)
  case' q11r4 => (clear hcl3; simp only [Act.put, List.setIfInBounds_toArray, List.set_cons_zero, List.set_cons_succ])
  refine wpAnyK_free (i := 5) (d := some 77) (v := ?q11v5) (by assumption) rfl (by kernel_rfl) (by kernel_rfl) (by kernel_rfl) (by decide) (by rfl) (fun _ _ _ h => h) (Or.inl ⟨by rfl, ?q11h5⟩) (.inr (by assumption)) (fun hcl5 => ?q11r5)
  case q11h5 => (intro w hSw; (try dsimp only at hSw); go_simp; first | done | with_reducible rfl)
  case' q11r5 => (clear hcl4; simp only [Act.put, List.setIfInBounds_toArray, List.set_cons_zero, List.set_cons_succ])
  refine wpAnyK_one (i := 6) (by assumption) (by kernel_rfl) rfl (fun K hK => ?_)
  go_simp
  go_at_call 35
  refine (HFt.out _).mono ?_
  rintro e w3 ⟨rfl, hb3⟩
  have B3 : Below w2.heap.size w2 w3 := bel_of_drew hb3
  have h31 := cell_keep c1 B3
  go_simp
  refine hK.out _ _ h31 (fun hcl6 => ?_)
  have bal : Below w3.heap.size w3 (w3.alloc (.cells #[.string S2] 9)) := (Below.refl _ _).alloc (Nat.le_refl _) _
  refine wpAnyK_one (i := 7) (by assumption) (by kernel_rfl) rfl (fun K hK => ?_)
  go_simp
  refine hK.out _ _ (cell_keep h31 bal) (fun hcl7 => ?_)
  have H4 := (H1.out.below B3).below bal
  have hw4 : W.heap.size ≤ (w3.alloc (.cells #[.string S2] 9)).heap.size := H4.bel.size
  refine wpAnyK_past (i := 8) (by assumption) (by kernel_rfl) rfl (by kernel_rfl) (fun K hK => ?_)
  refine step_append_lies _ (by rfl) _ _ _ (by rfl) W.heap.size 9 i0 _ 1 16 Try.underlying43 hi hz0 hz1 hz2 rfl (by omega) _ _ _ (by rfl) H4.ths ⟨w3.heap.size, 0, none⟩ 1 1 [.string S2] (by rfl) (by rfl) (one_at w3 _ _) (by simp [Value.oneCell']) (by omega) (by show ts.length + 1 ≤ _; unfold maxLen; omega) (by show (ts.length + 1) * 16 ≤ _; omega) hw4 (w3.heap.size + 1) (by simp) ?_
  intro gg capg w4 hown4 hgrow hat hlt4
  have FG : FrT [9] W.heap.size (w3.alloc (.cells #[.string S2] 9)) w4 := fr_grown H4.ths hgrow (by simp) hw4
  have hb4 : w4.heap[p]? = some (.cells #[.slice a xs.length cap, .slice aw ts.length cw, wv, .bool false] 45 (0, 0)) := FG.typ _ _ _ _ H4.box (by decide)
  have c4 := run_cell (j := 1) hb4 rfl
  have f4 := run_frozen (j := 1) hb4
  have FS2 : FrT [45] W.heap.size w4 (w4.setCell ⟨p, 1, none⟩ (.slice (some ⟨gg, 0, none⟩) (ts.length + 1) capg)) := fr_set _ hb4 (by simp) H4.le
  have HF : Hid (CmB W xs a cap p ⟨S2 :: ts, ws, false⟩ (.slice (some ⟨gg, 0, none⟩) (ts.length + 1) capg) wv (w4.setCell ⟨p, 1, none⟩ (.slice (some ⟨gg, 0, none⟩) (ts.length + 1) capg))) :=
    ⟨(H4.bel.trans FG.bel).trans FS2.bel, H4.le, H4.ops, setCell_self (j := 1) _ hb4, own_frT (by
      have e1 : sv13 (S2 :: ts).reverse = sv13 ts.reverse ++ [.string S2] := by simp [sv13]
      show w4.ownsRow _ _ _ _ (S2 :: ts).length (sv13 (S2 :: ts).reverse)
      rw [e1]
      exact hown4) FS2 (by decide), own_frT (own_frT H4.wts FG (by decide)) FS2 (by decide)⟩
  refine hK.out _ _ (fun hcl8 => ?_)
  have hb5 : (w4.setCell ⟨p, 1, none⟩ (.slice (some ⟨gg, 0, none⟩) (ts.length + 1) capg)).heap[p]? = some (.cells #[.slice a xs.length cap, (.slice (some ⟨gg, 0, none⟩) (ts.length + 1) capg), wv, .bool false] 45 (0, 0)) := HF.out.box
  have c5 := run_cell (j := 3) hb5 rfl
  have f5 := run_frozen (j := 3) hb5
  clear hcl7 hgrow hat hown4 H4 bal FS2 FG c1 h31 hHeld hb5 B3 hb3
  refine wpAnyK_past (i := 9) (by assumption) (by kernel_rfl) rfl (by kernel_rfl) (fun K hK => ?_)
  go_simp
  refine hK.out _ _ (fun hcl9 => ?_)
  refine wpAnyK_past (i := 10) (by assumption) (by kernel_rfl) rfl (by kernel_rfl) (fun K hK => ?_)
  go_simp
  refine hK.out _ _ (fun hcl10 => ?_)
  refine wpAnyK_past (i := 11) (by assumption) (by kernel_rfl) rfl (by kernel_rfl) (fun K hK => ?_)
  go_simp
  refine hK.out _ _ (fun hcl11 => ?_)
  refine wpAnyK_done (by kernel_rfl) ?_
  have HG : Hid (CmB W xs a cap p ⟨S2 :: ts, ws, true⟩ (.slice (some ⟨gg, 0, none⟩) (ts.length + 1) capg) wv ((w4.setCell ⟨p, 1, none⟩ (.slice (some ⟨gg, 0, none⟩) (ts.length + 1) capg)).setCell ⟨p, 3, none⟩ (.bool true))) := HF.out.setB true
  clear hcl8 hcl9 hcl10 hcl11 hb4 c4 f4 HF
  generalize (w4.setCell ⟨p, 1, none⟩ (.slice (some ⟨gg, 0, none⟩) (ts.length + 1) capg)) = w5 at *
  go_wp2
  go_ret
  exact ⟨rfl, HN.out, _, _, HG.out⟩

set_option maxHeartbeats 3200000 in
set_option maxRecDepth 100000 in
theorem whole_no (W : World) (xs : List OpD) (a : Option Addr) (cap p : Nat) (ts : List ByteArray) (ws : List OpD) (tv wv : Value) (w : World) (h : CmB W xs a cap p ⟨ts, ws, false⟩ tv wv w) :
    Calls Try.prog 19 #[.pointer (some ⟨p, 0, none⟩)] w fun e w' => e = .returned (.tuple #[.string ⟨#[]⟩, .bool false]) ∧ Below W.heap.size W w' := by
  have c3 := run_cell (j := 3) h.box rfl
  have HB : Hid (Below W.heap.size W w) := h.bel
  clear h
  go_enter Try.func19, Try.ntmps19
  go_wp2
  go_ret2
  exact ⟨rfl, HB.out⟩

set_option maxHeartbeats 3200000 in
set_option maxRecDepth 100000 in
theorem whole_any (W : World) (xs : List OpD) (a : Option Addr) (cap p N : Nat) (ts : List ByteArray) (ws : List OpD) (tv wv : Value) (w : World) (ho : opsB xs = true) (hN : N ≤ 12) (hI : Inv13 xs N ⟨ts, ws, true⟩) (h : CmB W xs a cap p ⟨ts, ws, true⟩ tv wv w) :
    Calls Try.prog 19 #[.pointer (some ⟨p, 0, none⟩)] w fun e w' => e = .returned (.tuple #[.string ((whole13 ⟨ts, ws, true⟩).getD ⟨#[]⟩), .bool (whole13 ⟨ts, ws, true⟩).isSome]) ∧ Below W.heap.size W w' := by
  have c3 := run_cell (j := 3) h.box rfl
  have HP : Hid (∀ V : World, _) := parenthesis_any
  have HC : Hid (CmB W xs a cap p ⟨ts, ws, true⟩ tv wv w) := h
  obtain ⟨y, hyy⟩ : ∃ y, y = par13 := ⟨_, rfl⟩
  have HYy : Hid (y = par13) := hyy
  have hy : y = par13 ∨ y ∈ xs := .inl hyy
  rw [← hyy] at HP
  have HAh : Hid (∀ (V : World), CmB W xs a cap p ⟨ts, ws, true⟩ tv wv V → _) := fun V hV => bindAhead_any W xs a cap p N ts ws y tv wv V ho hN hy hI hV
  have HW13 : Hid (whole13 ⟨ts, ws, true⟩ = match (bind13 y ts ws).2 with | [] => some ((bind13 y ts ws).1.getLastD ⟨#[]⟩) | _ :: _ => none) := by
    rw [Hid, hyy]
    unfold whole13
    exact if_neg (by simp)
  obtain ⟨TS, hTS⟩ : ∃ TS, TS = (bind13 y ts ws).1 := ⟨_, rfl⟩
  obtain ⟨WS, hWS⟩ : ∃ WS, WS = (bind13 y ts ws).2 := ⟨_, rfl⟩
  have HTS : Hid (TS = (bind13 y ts ws).1) := hTS
  have HWS : Hid (WS = (bind13 y ts ws).2) := hWS
  rw [← hTS, ← hWS] at HW13
  have HO : Hid (opsB xs = true) := ho
  clear h hyy hy hTS hWS ho hI
  go_enter Try.func19, Try.ntmps19
  go_wp2_with (go_at_call 36; refine (HP.out _).mono ?_; rintro e w1 ⟨rfl, hb1⟩; have H1 := HC.out.below hb1)
  refine (HAh.out _ H1).mono ?_
  rintro e w3 ⟨rfl, ⟨hI3, tv3, wv3, hC3⟩, hF3⟩
  unfold bound13 at hI3 hC3
  rw [← HTS.out, ← HWS.out] at hI3 hC3
  have HI3 : Hid (Inv13 xs N ⟨TS, WS, true⟩) := hI3
  have H3 : Hid (CmB W xs a cap p ⟨TS, WS, true⟩ tv3 wv3 w3) := hC3
  have HB : Hid (Below W.heap.size W w3) := hC3.bel
  clear hF3 hI3 hC3 H1 hb1 HAh HC HP c3
  cases WS with
  | nil =>
    obtain ⟨aw, cw, rfl⟩ := own_shape13 H3.out.wts
    have hn := HI3.out.num
    have htn : TS.length = 1 := by simpa using hn
    obtain ⟨t, rfl⟩ := List.length_eq_one_iff.1 htn
    obtain ⟨gt, ct, rfl, _, _⟩ := own_some13 H3.out.ths (by simp)
    have c2 : w3.cell? ⟨p, 2, none⟩ = some (.slice aw 0 cw) := run_cell H3.out.box rfl
    have c1 : w3.cell? ⟨p, 1, none⟩ = some (.slice (some ⟨gt, 0, none⟩) 1 ct) := run_cell H3.out.box rfl
    have t0 : w3.cell? ⟨gt, 0, none⟩ = some (.string t) := own_at13 H3.out.ths 0 _ (by simp [sv13])
    have HV : Hid (whole13 ⟨ts, ws, true⟩ = some t) := by rw [Hid, HW13.out]; rfl
    go_wp2
    go_ret2
    rw [HV.out]
    exact ⟨rfl, HB.out⟩
  | cons x r =>
    obtain ⟨gw, cw, rfl, _, _⟩ := own_some13 H3.out.wts (by simp)
    obtain ⟨nw, hnw⟩ : ∃ nw, nw = r.length + 1 := ⟨_, rfl⟩
    have c2 : w3.cell? ⟨p, 2, none⟩ = some (.slice (some ⟨gw, 0, none⟩) nw cw) := by rw [hnw]; exact run_cell H3.out.box rfl
    have i1 : (0 : Int) < (nw : Int) := by omega
    have i1n : 0 < nw := by omega
    have HV : Hid (whole13 ⟨ts, ws, true⟩ = none) := HW13.out
    clear hnw
    go_wp2
    go_ret2
    rw [HV.out]
    exact ⟨rfl, HB.out⟩

end Go.Proofs.Ytkojkicfibmjdaa
