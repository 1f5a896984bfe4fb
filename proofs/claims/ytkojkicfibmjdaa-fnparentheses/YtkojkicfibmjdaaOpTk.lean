/- The program's climb: one byte taken (printed by mk/optk.py). -/
import Derived.Test.YtkojkicfibmjdaaOpAh
import Derived.Test.YtkojkicfibmjdaaKindI
namespace Go.Proofs.Ytkojkicfibmjdaa
open Go.RowKit
set_option linter.unusedVariables false

theorem opAt_cases (xs : List OpD) (b : UInt8) : (opAt13 xs b).1 = par13 ∧ (opAt13 xs b).2 = false ∨ (opAt13 xs b).1 ∈ xs ∧ (opAt13 xs b).2 = true := by
  cases hf : find13 ⟨#[b]⟩ 0 xs with
  | none => rw [opAt_none hf]; exact .inl ⟨rfl, rfl⟩
  | some k =>
    obtain ⟨h1, _, _⟩ := find_some 0 xs k hf
    have h1 : k < xs.length := h1
    rw [opAt_some hf h1]
    exact .inr ⟨List.getElem_mem h1, rfl⟩
theorem kind_fig (b : UInt8) : (kindP b.toNat == 1) = fig13 b := by
  unfold kindP fig13
  by_cases h1 : 48 ≤ b.toNat
  · by_cases h2 : b.toNat ≤ 57
    · rw [if_pos ⟨h1, h2⟩, decide_eq_true h1, decide_eq_true h2]; rfl
    · rw [if_neg (fun h => h2 h.2), decide_eq_false h2, Bool.and_false]
      split <;> rfl
  · rw [if_neg (fun h => h1 h.1), decide_eq_false h1, Bool.false_and]
    split <;> rfl
theorem own_shape13 {w : World} {B s n : Nat} {e : TypeId} {v : Value} {cs : List Value} (h : w.ownsRow B e s v n cs) : ∃ a c, v = .slice a n c := by
  rcases h.2 with ⟨rfl, h0⟩ | ⟨g, cap, cur, rfl, _⟩
  · exact ⟨none, 0, by rw [h0]⟩
  · exact ⟨_, _, rfl⟩
/-- What one byte brings. -/
def TakeP (W : World) (xs : List OpD) (a : Option Addr) (cap p N : Nat) (d : CmD) (w : World) : Prop := Inv13 xs (N + 1) d ∧ ∃ tv wv, CmB W xs a cap p d tv wv w
theorem ov_snoc (ws : List OpD) (x : OpD) : ov (x :: ws).reverse = ov ws.reverse ++ [.string x.sign, .int .i64 x.level, .bool x.right] := by
  rw [List.reverse_cons, ov_app]
  simp [ov]
theorem three13 (a b c : Value) (ha : a.oneCell' = true) (hb : b.oneCell' = true) (hc : c.oneCell' = true) : ∀ u ∈ [a, b, c], u.oneCell' = true := by
  intro u hu
  simp only [List.mem_cons, List.not_mem_nil, or_false] at hu
  rcases hu with rfl | rfl | rfl <;> assumption


set_option maxHeartbeats 6400000 in
set_option maxRecDepth 100000 in
theorem takeE1 (W : World) (xs : List OpD) (a : Option Addr) (cap p N : Nat) (ts : List ByteArray) (ws : List OpD) (tv wv : Value) (b : UInt8) (w : World) (ho : opsB xs = true) (hN : N ≤ 11) (hq : (opAt13 xs b).2 = false) (hb : b ≠ 41) (h : CmB W xs a cap p ⟨ts, ws, true⟩ tv wv w) :
    Calls Try.prog 18 #[.pointer (some ⟨p, 0, none⟩), .int .u8 (b.toNat : Int)] w fun e w' => e = .returned (.bool false) ∧ Below W.heap.size W w' := by
  have HOp : Hid (∀ _ : Unit, _) := fun _ => opOfI_any W xs a cap p ⟨ts, ws, true⟩ tv wv b w ho h
  have HC : Hid (CmB W xs a cap p ⟨ts, ws, true⟩ tv wv w) := h
  have hkf := kind_fig b
  have HKd : Hid (∀ V : World, _) := fun V => kind_any b.toNat b.toNat_lt V
  generalize (opAt13 xs b).1 = y at *
  generalize kindP b.toNat = kp at *
  clear h ho
  rw [hq] at HOp
  have b41 : ((b.toNat : Int) == 41) = false := by
    rw [beq_eq_false_iff_ne]
    intro e
    exact hb (UInt8.toNat_inj.1 (show b.toNat = (41 : UInt8).toNat by show b.toNat = 41; omega))
  clear hb hq
  cases hk : fig13 b <;> cases h40 : ((b.toNat : Int) == 40)
  all_goals
    rw [hk] at hkf
    clear hk
    go_enter Try.func18, Try.ntmps18
    go_wp2_with (first | (go_at_call 34; refine (HKd.out _).mono ?_; rintro e wq ⟨rfl, hw⟩; rw [hw]; clear hw) | (go_at_call 31; refine (HOp.out ()).mono ?_; rintro e w1 ⟨rfl, hb1⟩; have H1 := HC.out.below (hb1.trans (((Below.refl w1.heap.size w1).alloc (Nat.le_refl _) (.cells #[.string y.sign, .int .i64 y.level, .bool y.right] 27)).mono hb1.size)); have c3 := run_cell (j := 3) H1.box rfl))
    go_ret
    exact ⟨rfl, H1.bel⟩

set_option maxHeartbeats 6400000 in
set_option maxRecDepth 100000 in
theorem takeE2 (W : World) (xs : List OpD) (a : Option Addr) (cap p N : Nat) (ts : List ByteArray) (ws : List OpD) (tv wv : Value) (b : UInt8) (w : World) (ho : opsB xs = true) (hN : N ≤ 11) (hb : b ≠ 40) (hf : fig13 b = false) (h : CmB W xs a cap p ⟨ts, ws, false⟩ tv wv w) :
    Calls Try.prog 18 #[.pointer (some ⟨p, 0, none⟩), .int .u8 (b.toNat : Int)] w fun e w' => e = .returned (.bool false) ∧ Below W.heap.size W w' := by
  have HOp : Hid (∀ _ : Unit, _) := fun _ => opOfI_any W xs a cap p ⟨ts, ws, false⟩ tv wv b w ho h
  have HC : Hid (CmB W xs a cap p ⟨ts, ws, false⟩ tv wv w) := h
  have hkf := kind_fig b
  have HKd : Hid (∀ V : World, _) := fun V => kind_any b.toNat b.toNat_lt V
  generalize (opAt13 xs b).1 = y at *
  generalize kindP b.toNat = kp at *
  clear h ho
  have b40 : ((b.toNat : Int) == 40) = false := by
    rw [beq_eq_false_iff_ne]
    intro e
    exact hb (UInt8.toNat_inj.1 (show b.toNat = (40 : UInt8).toNat by show b.toNat = 40; omega))
  rw [hf] at hkf
  clear hb hf
  generalize (opAt13 xs b).2 = q at *
  cases hk : q <;> cases h41 : ((b.toNat : Int) == 41)
  all_goals
    rw [hk] at HOp
    clear hk
    go_enter Try.func18, Try.ntmps18
    go_wp2_with (first | (go_at_call 34; refine (HKd.out _).mono ?_; rintro e wq ⟨rfl, hw⟩; rw [hw]; clear hw) | (go_at_call 31; refine (HOp.out ()).mono ?_; rintro e w1 ⟨rfl, hb1⟩; have H1 := HC.out.below (hb1.trans (((Below.refl w1.heap.size w1).alloc (Nat.le_refl _) (.cells #[.string y.sign, .int .i64 y.level, .bool y.right] 27)).mono hb1.size)); have c3 := run_cell (j := 3) H1.box rfl))
    go_ret
    exact ⟨rfl, H1.bel⟩

set_option maxHeartbeats 6400000 in
set_option maxRecDepth 100000 in
theorem takeB (W : World) (xs : List OpD) (a : Option Addr) (cap p N : Nat) (ts : List ByteArray) (ws : List OpD) (tv wv : Value) (b : UInt8) (w : World) (ho : opsB xs = true) (hN : N ≤ 11) (hb : b = 40) (hI : Inv13 xs N ⟨ts, ws, false⟩) (h : CmB W xs a cap p ⟨ts, ws, false⟩ tv wv w) :
    Calls Try.prog 18 #[.pointer (some ⟨p, 0, none⟩), .int .u8 (b.toNat : Int)] w fun e w' => e = .returned (.bool true) ∧ TakeP W xs a cap p N ⟨ts, (opAt13 xs b).1 :: ws, false⟩ w' := by
  obtain ⟨r0, hr, hr0, hr1, hr2⟩ := info_parts Try.infoOpT
  have HOp : Hid (∀ _ : Unit, _) := fun _ => opOfI_any W xs a cap p ⟨ts, ws, false⟩ tv wv b w ho h
  obtain ⟨aw, cw, rfl⟩ := own_shape13 h.wts
  have HC : Hid (CmB W xs a cap p ⟨ts, ws, false⟩ tv (.slice aw ws.length cw) w) := h
  have hey : opAt13 xs b = (par13, false) := opAt_not ho (by rw [hb]; decide)
  have hsm := (hI.small (by omega)).1
  have hwl : ws.length ≤ 16 := hsm
  have HN : Hid (Inv13 xs (N + 1) ⟨ts, par13 :: ws, false⟩) := by
    refine ⟨?_, ?_, fun z hz => ?_⟩
    · have := hI.num
      simp only [List.filter_cons, show real13 par13 = false by decide] at this ⊢
      exact this
    · have := hI.sz
      show sizes13 ts + 3 * (ws.length + 1) ≤ 4 * (N + 1)
      have h2 : sizes13 ts + 3 * ws.length ≤ 4 * N := this
      omega
    · rcases List.mem_cons.1 hz with rfl | hz
      · exact .inl rfl
      · exact hI.wt z hz
  rw [hey] at HOp ⊢
  have b40 : ((b.toNat : Int) == 40) = true := by rw [hb]; rfl
  clear h ho hey hI hb hsm
  generalize par13 = y at *
  go_enter Try.func18, Try.ntmps18
  go_wp2_with (go_at_call 31; refine (HOp.out ()).mono ?_; rintro e w1 ⟨rfl, hb1⟩; have B1 : Below w1.heap.size w1 (w1.alloc (.cells #[.string y.sign, .int .i64 y.level, .bool y.right] 27)) := (Below.refl w1.heap.size w1).alloc (Nat.le_refl _) _; have H1 : Hid (CmB W xs a cap p ⟨ts, ws, false⟩ tv (.slice aw ws.length cw) (w1.alloc (.cells #[.string y.sign, .int .i64 y.level, .bool y.right] 27))) := HC.out.below (hb1.trans (B1.mono hb1.size)); have X1 : Hid ((w1.alloc (.cells #[.string y.sign, .int .i64 y.level, .bool y.right] 27)).heap[w1.heap.size]? = some (.cells #[.string y.sign, .int .i64 y.level, .bool y.right] 27 (0, 0))) := heap_alloc_new w1 _; have c3 := run_cell (j := 3) H1.out.box rfl; clear B1 hb1)
  generalize w1.alloc (.cells #[.string y.sign, .int .i64 y.level, .bool y.right] 27) = w2 at *
  generalize w1.heap.size = bx at *
  have c2 : w2.cell? ⟨p, 2, none⟩ = some (.slice aw ws.length cw) := run_cell H1.out.box rfl
  have x0 := run_cell (j := 0) X1.out rfl
  have x1 := run_cell (j := 1) X1.out rfl
  have x2 := run_cell (j := 2) X1.out rfl
  refine wp_region_K (k := 7) (S := fun V => V.cell? ⟨p, 2, none⟩ = some (.slice aw ws.length cw) ∧ V.cell? ⟨bx, 0, none⟩ = some (.string y.sign) ∧ V.cell? ⟨bx, 1, none⟩ = some (.int .i64 y.level) ∧ V.cell? ⟨bx, 2, none⟩ = some (.bool y.right)) (by kernel_rfl) ?_ (fun hHeld hcl => ?_)
  · exact ⟨c2, x0, x1, x2⟩
  refine wpAnyK_free (i := 0) (d := some 54) (v := ?q7v0) (by assumption) rfl (by kernel_rfl) (by kernel_rfl) (by kernel_rfl) (by decide) (by rfl) (fun _ _ _ h => h) (Or.inl ⟨by rfl, ?q7h0⟩) (.inr (by assumption)) (fun hcl0 => ?q7r0)
  case q7h0 => (intro w hSw; (try dsimp only at hSw); go_simp; first | done | with_reducible rfl)
  case' q7r0 => (clear hcl; simp only [Act.put, List.setIfInBounds_toArray, List.set_cons_zero, List.set_cons_succ])
  refine wpAnyK_free (i := 1) (d := some 55) (v := ?q7v1) (by assumption) rfl (by kernel_rfl) (by kernel_rfl) (by kernel_rfl) (by decide) (by rfl) (fun _ _ _ h => h) (Or.inl ⟨by rfl, ?q7h1⟩) (.inr (by assumption)) (fun hcl1 => ?q7r1)
  case q7h1 => (intro w hSw; (try dsimp only at hSw); go_simp; first | done | with_reducible rfl)
  case' q7r1 => (clear hcl0; simp only [Act.put, List.setIfInBounds_toArray, List.set_cons_zero, List.set_cons_succ])
  refine wpAnyK_free (i := 2) (d := some 56) (v := ?q7v2) (by assumption) rfl (by kernel_rfl) (by kernel_rfl) (by kernel_rfl) (by decide) (by rfl) (fun _ _ _ h => h) (Or.inl ⟨by rfl, ?q7h2⟩) (.inr (by assumption)) (fun hcl2 => ?q7r2)
  case q7h2 => (intro w hSw; (try dsimp only at hSw); go_simp; first | done | with_reducible rfl)
  case' q7r2 => (clear hcl1; simp only [Act.put, List.setIfInBounds_toArray, List.set_cons_zero, List.set_cons_succ])
  refine wpAnyK_free (i := 3) (d := some 57) (v := ?q7v3) (by assumption) rfl (by kernel_rfl) (by kernel_rfl) (by kernel_rfl) (by decide) (by rfl) (fun _ _ _ h => h) (Or.inl ⟨by rfl, ?q7h3⟩) (.inr (by assumption)) (fun hcl3 => ?q7r3)
  case q7h3 => (intro w hSw; (try dsimp only at hSw); go_simp; first | done | with_reducible rfl)
  case' q7r3 => (clear hcl2; simp only [Act.put, List.setIfInBounds_toArray, List.set_cons_zero, List.set_cons_succ])
  refine wpAnyK_take [4] (i := 4) (d := some 58) (v := ?q7v4) (by assumption) rfl (by kernel_rfl) (by kernel_rfl) (by kernel_rfl) (by kernel_rfl) (by kernel_rfl) (by decide) (by rfl) (fun _ _ _ h => h) (Or.inl ⟨by rfl, ?q7h4⟩) (by assumption) (fun hcl4 => ?q7r4)
  case q7h4 => (intro w hSw; (try dsimp only at hSw); go_simp; first | done | with_reducible rfl)
  case' q7r4 => (clear hcl3; simp only [Act.put, List.setIfInBounds_toArray, List.set_cons_zero, List.set_cons_succ])
  refine wpAnyK_take [6, 5] (i := 5) (d := some 59) (v := ?q7v5) (by assumption) rfl (by kernel_rfl) (by kernel_rfl) (by kernel_rfl) (by kernel_rfl) (by kernel_rfl) (by decide) (by rfl) (fun _ _ _ h => h) (Or.inl ⟨by rfl, ?q7h5⟩) (by assumption) (fun hcl5 => ?q7r5)
  case q7h5 => (intro w hSw; (try dsimp only at hSw); go_simp; first | done | with_reducible rfl)
  case' q7r5 => (clear hcl4; simp only [Act.put, List.setIfInBounds_toArray, List.set_cons_zero, List.set_cons_succ])
  have bal : Below w2.heap.size w2 (w2.drew.alloc (.cells #[.string y.sign, .int .i64 y.level, .bool y.right] 27)) := (Below.refl w2.heap.size w2).drew.alloc (Nat.le_refl _) _
  refine wpAnyK_one (i := 6) (by assumption) (by kernel_rfl) rfl (fun K hK => ?_)
  go_simp
  refine hK.out _ _ ⟨cell_keep c2 bal, cell_keep x0 bal, cell_keep x1 bal, cell_keep x2 bal⟩ (fun hcl6 => ?_)
  have H3 := H1.out.below bal
  have hw4 : W.heap.size ≤ (w2.drew.alloc (.cells #[.string y.sign, .int .i64 y.level, .bool y.right] 27)).heap.size := H3.bel.size
  refine wpAnyK_past (i := 7) (by assumption) (by kernel_rfl) rfl (by kernel_rfl) (fun K hK => ?_)
  refine step_append_lies _ (by rfl) _ _ _ (by rfl) W.heap.size 27 r0 _ 3 32 Try.underlying28 hr hr0 hr1 hr2 rfl (by omega) _ _ _ (by rfl) H3.wts ⟨w2.heap.size, 0, none⟩ 1 1 [.string y.sign, .int .i64 y.level, .bool y.right] (by rfl) (by rfl) (World.news_of_block (cs := #[.string y.sign, .int .i64 y.level, .bool y.right]) (t := 27) (fr := (0, 0)) (heap_alloc_new w2.drew _)) (three13 _ _ _ rfl rfl rfl) (by omega) (by show ws.length + 1 ≤ _; unfold maxLen; omega) (by show (ws.length + 1) * 32 ≤ _; omega) hw4 (w2.heap.size + 1) (by simp [World.drew]) ?_
  intro gg capg w4 hown4 hgrow hat hlt4
  have FG : FrT [27] W.heap.size (w2.drew.alloc (.cells #[.string y.sign, .int .i64 y.level, .bool y.right] 27)) w4 := fr_grown H3.wts hgrow (by simp) hw4
  have hb4 : w4.heap[p]? = some (.cells #[.slice a xs.length cap, tv, .slice aw ws.length cw, .bool false] 45 (0, 0)) := FG.typ _ _ _ _ H3.box (by decide)
  have c4 := run_cell (j := 2) hb4 rfl
  have f4 := run_frozen (j := 2) hb4
  have FS2 : FrT [45] W.heap.size w4 (w4.setCell ⟨p, 2, none⟩ (.slice (some ⟨gg, 0, none⟩) (ws.length + 1) capg)) := fr_set _ hb4 (by simp) H3.le
  have HF : Hid (CmB W xs a cap p ⟨ts, y :: ws, false⟩ tv (.slice (some ⟨gg, 0, none⟩) (ws.length + 1) capg) (w4.setCell ⟨p, 2, none⟩ (.slice (some ⟨gg, 0, none⟩) (ws.length + 1) capg))) :=
    ⟨(H3.bel.trans FG.bel).trans FS2.bel, H3.le, H3.ops, setCell_self (j := 2) _ hb4, own_frT (own_frT H3.ths FG (by decide)) FS2 (by decide), own_frT (by
      show w4.ownsRow _ _ _ _ (y :: ws).length (ov (y :: ws).reverse)
      rw [ov_snoc]
      exact hown4) FS2 (by decide)⟩
  refine hK.out _ _ (fun hcl7 => ?_)
  have hb5 : (w4.setCell ⟨p, 2, none⟩ (.slice (some ⟨gg, 0, none⟩) (ws.length + 1) capg)).heap[p]? = some (.cells #[.slice a xs.length cap, tv, (.slice (some ⟨gg, 0, none⟩) (ws.length + 1) capg), .bool false] 45 (0, 0)) := HF.out.box
  have c5 := run_cell (j := 3) hb5 rfl
  have f5 := run_frozen (j := 3) hb5
  clear hcl6 hgrow hat hown4 H3 bal FS2 FG c2 x0 x1 x2 hHeld hb5
  refine wpAnyK_past (i := 8) (by assumption) (by kernel_rfl) rfl (by kernel_rfl) (fun K hK => ?_)
  go_simp
  refine hK.out _ _ (fun hcl8 => ?_)
  refine wpAnyK_past (i := 9) (by assumption) (by kernel_rfl) rfl (by kernel_rfl) (fun K hK => ?_)
  go_simp
  refine hK.out _ _ (fun hcl9 => ?_)
  refine wpAnyK_past (i := 10) (by assumption) (by kernel_rfl) rfl (by kernel_rfl) (fun K hK => ?_)
  go_simp
  refine hK.out _ _ (fun hcl10 => ?_)
  refine wpAnyK_done (by kernel_rfl) ?_
  have HG : Hid (CmB W xs a cap p ⟨ts, y :: ws, false⟩ tv (.slice (some ⟨gg, 0, none⟩) (ws.length + 1) capg) ((w4.setCell ⟨p, 2, none⟩ (.slice (some ⟨gg, 0, none⟩) (ws.length + 1) capg)).setCell ⟨p, 3, none⟩ (.bool false))) := HF.out.setB false
  clear hcl7 hcl8 hcl9 hcl10 hb4 c4 f4 HF
  generalize (w4.setCell ⟨p, 2, none⟩ (.slice (some ⟨gg, 0, none⟩) (ws.length + 1) capg)) = w5 at *
  go_wp2
  go_ret
  exact ⟨rfl, HN.out, _, _, HG.out⟩

end Go.Proofs.Ytkojkicfibmjdaa
