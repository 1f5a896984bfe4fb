/- Operators' grammar: opAlt. -/
import Derived.Test.YtbjkfecailnelaaO13B
import Derived.Test.YtbjkfecailnelaaOpI
import Derived.Test.YtbjkfecailnelaaShelf
import Derived.BigQuiet
import Derived.Test.YtbjkfecailnelaaOrK
namespace Go.Proofs.Ytbjkfecailnelaa
open Go.RowKit
set_option linter.unusedVariables false

theorem strClone13 (s : ByteArray) (w : World) (h : s.size ≤ 1048576) :
    Calls Try.prog 32 #[.string s] w fun e w' => e = .returned (.string s) ∧ Below w.heap.size w w' := by
  go_enter Try.func32, Try.ntmps32
  go_wp2_with (go_at_call 41; refine (Try.stringslite_Clone _ _ (by omega)).mono ?_; rintro e w1 ⟨rfl, hb1⟩)
  go_ret
  exact ⟨rfl, hb1⟩
def opAltD (x : OpD) : List SymD := [ifD x.level, callD (if x.right then x.level + 1 else x.level), ⟨1, x.sign, [], ⟨#[]⟩⟩, callD (if x.right then x.level else x.level + 1)]
def AlO (x : List SymD) (w : World) (e : Ending) (w' : World) : Prop := Below w.heap.size w w' ∧ ∃ (a : Option Addr) (c : Nat), e = .returned (.agg #[.slice a x.length c]) ∧ RowF 4 54 SymF (Nw w.heap.size w'.heap.size) (.slice a x.length c) x w'
theorem frozenO {W W' : World} {a : Addr} {v : Value} (hc : W.cell? a = some v) (h : W.frozen? a = false) (hb : Below W.heap.size W W') : W'.frozen? a = false := by
  have hlt := World.block_lt_of_cell? W _ hc
  unfold World.frozen? at h ⊢
  rw [hb.block a.block hlt]
  exact h
theorem keepO {W W' : World} {a0 a1 a2 a3 a4 a5 : Addr} {x0 x1 x2 x3 x4 x5 : Value} (h : W.cell? a0 = some x0 ∧ W.cell? a1 = some x1 ∧ W.cell? a2 = some x2 ∧ W.cell? a3 = some x3 ∧ W.cell? a4 = some x4 ∧ W.cell? a5 = some x5 ∧ W.frozen? a5 = false) (hb : Below W.heap.size W W') : W'.cell? a0 = some x0 ∧ W'.cell? a1 = some x1 ∧ W'.cell? a2 = some x2 ∧ W'.cell? a3 = some x3 ∧ W'.cell? a4 = some x4 ∧ W'.cell? a5 = some x5 ∧ W'.frozen? a5 = false := ⟨cell_keep h.1 hb, cell_keep h.2.1 hb, cell_keep h.2.2.1 hb, cell_keep h.2.2.2.1 hb, cell_keep h.2.2.2.2.1 hb, cell_keep h.2.2.2.2.2.1 hb, frozenO h.2.2.2.2.2.1 h.2.2.2.2.2.2 hb⟩
/-- Four syms written out in one piece. -/
theorem alt_four {a s0 s1 s2 s3 : Nat} {V : World} {x1 x2 x4 : SymD} {sg : ByteArray} {p1 p2 p4 : Option Addr} {c1 c2 c4 : Nat} (h0 : a ≤ s0) (h1 : s0 ≤ s1) (h2 : s1 ≤ s2) (h3 : s2 ≤ s3) (h4 : s3 ≤ V.heap.size)
    (o1 : RowF 1 47 ExprF (Nw s0 s1) (.slice p1 x1.args.length c1) x1.args V) (o2 : RowF 1 47 ExprF (Nw s1 s2) (.slice p2 x2.args.length c2) x2.args V) (o4 : RowF 1 47 ExprF (Nw s2 s3) (.slice p4 x4.args.length c4) x4.args V) (cs : Array Value)
    (hcs : cs.toList = [.int .i64 x1.kind, .string x1.text, .slice p1 x1.args.length c1, .string x1.bind, .int .i64 x2.kind, .string x2.text, .slice p2 x2.args.length c2, .string x2.bind, .int .i64 1, .string sg, .slice none 0 0, .string ⟨#[]⟩, .int .i64 x4.kind, .string x4.text, .slice p4 x4.args.length c4, .string x4.bind]) :
    RowF 4 54 SymF (Nw a (V.heap.size + 1)) (.slice (some ⟨V.heap.size, 0, none⟩) 4 4) [x1, x2, ⟨1, sg, [], ⟨#[]⟩⟩, x4] (V.alloc (.cells cs 54)) :=
  RowF.seq (w := V) (T := 54) (xs := [x1, x2, ⟨1, sg, [], ⟨#[]⟩⟩, x4]) (E := SymF) (sz := 4) (a := a) (fun i => if i = 0 then s0 else if i = 1 then s1 else if i ≤ 3 then s2 else s3)
    [[.int .i64 x1.kind, .string x1.text, .slice p1 x1.args.length c1, .string x1.bind], [.int .i64 x2.kind, .string x2.text, .slice p2 x2.args.length c2, .string x2.bind], [.int .i64 1, .string sg, .slice none 0 0, .string ⟨#[]⟩], [.int .i64 x4.kind, .string x4.text, .slice p4 x4.args.length c4, .string x4.bind]] cs
    (fun i j hij => by repeat' split
                       all_goals omega) (by simpa using h0) (fun i => by repeat' split
                                                                         all_goals omega) rfl (by intro vs hvs; simp only [List.mem_cons, List.not_mem_nil, or_false] at hvs; rcases hvs with rfl | rfl | rfl | rfl <;> rfl) (by simp [maxLen]) stabSym hcs (fun i hi hi' => by
      match i, hi with
      | 0, _ => exact ⟨_, rfl, o1⟩
      | 1, _ => exact ⟨_, rfl, o2⟩
      | 2, _ => exact SymF.bare ⟨1, sg, [], ⟨#[]⟩⟩ rfl
      | 3, _ => exact ⟨_, rfl, o4⟩)

set_option maxHeartbeats 3200000 in
set_option maxRecDepth 100000 in
theorem opAlt_any (x : OpD) (w : World) (hl : 1 ≤ x.level ∧ x.level ≤ 9) (hs : x.sign.size ≤ 1048576) :
    Calls Try.prog 19 #[.agg #[.string x.sign, .int .i64 x.level, .bool x.right]] w fun e w' => AlO (opAltD x) w e w' := by
  obtain ⟨sg, lv, rt⟩ := x
  have HC : Hid (∀ W, _) := fun W => strClone13 sg W hs
  have hl1 : 1 ≤ lv := hl.1
  have hl2 : lv ≤ 9 := hl.2
  have HIf : Hid (∀ W, Calls Try.prog 33 #[.int .i64 lv] W fun e w' => SyO (ifD lv) W e w') := fun W => levelIf_any lv W
  have HX1 : Hid (∀ W, Calls Try.prog 20 #[.int .i64 lv] W fun e w' => SyO (callD lv) W e w') := fun W => levelCall_any lv W
  have HX2 : Hid (∀ W, Calls Try.prog 20 #[.int .i64 (lv + 1)] W fun e w' => SyO (callD (lv + 1)) W e w') := fun W => levelCall_any (lv + 1) W
  obtain ⟨A1, h1⟩ : ∃ W, W = w.alloc (.cells #[.string sg, .int .i64 lv, .bool rt] 44) := ⟨_, rfl⟩
  obtain ⟨A2, h2⟩ : ∃ W, W = A1.alloc (.cells #[.slice none 0 0] 58) := ⟨_, rfl⟩
  have z1 : A1.heap.size = w.heap.size + 1 := by rw [h1]; simp
  have z2 : A2.heap.size = w.heap.size + 2 := by rw [h2]; simp [z1]
  have b2 : ∀ j, j < A1.heap.size → A2.heap[j]? = A1.heap[j]? := fun j hj => by rw [h2]; exact Below.heap_alloc A1 _ j hj
  have ho : A2.heap[w.heap.size]? = some (.cells #[.string sg, .int .i64 lv, .bool rt] 44 (0, 0)) := by rw [b2 _ (by omega), h1]; exact heap_alloc_new w _
  have hr : A2.heap[w.heap.size + 1]? = some (.cells #[.slice none 0 0] 58 (0, 0)) := by rw [h2, ← z1]; exact heap_alloc_new A1 _
  have HB : Hid (Below w.heap.size w A2) := by rw [h2]; exact Below.alloc (by rw [h1]; exact (Below.refl _ _).alloc (Nat.le_refl _) _) (by omega) _
  have HA : Hid (A2 = (w.alloc (.cells #[.string sg, .int .i64 lv, .bool rt] 44)).alloc (.cells #[.slice none 0 0] 58)) := by rw [Hid, h2, h1]
  have HO : Hid (_) := ho
  have HR : Hid (_) := hr
  have HZ : Hid (A2.heap.size = w.heap.size + 2) := z2
  have o0 := run_cell (j := 0) ho rfl
  have o1 := run_cell (j := 1) ho rfl
  have o2 := run_cell (j := 2) ho rfl
  rw [HA.out] at o0 o1 o2
  clear hl hs ho hr b2 z1 z2 h1 h2
  clear A1
  cases rt with
  | false =>
    go_enter Try.func19, Try.ntmps19
    go_wp2_with fail
    go_quiet (fail)
    go_wp2_with fail
    rw [← HA.out]
    refine (HC.out _).mono ?_
    rintro e w5 ⟨rfl, hb5⟩
    have hb5' : Below A2.heap.size A2 w5 := ⟨hb5.os, hb5.tape, hb5.output, hb5.size, hb5.block⟩
    have hz := HZ.out
    have hs5 : A2.heap.size ≤ w5.heap.size := hb5'.size
    have bal5 : Below w5.heap.size w5 (w5.alloc (.cells #[.int .i64 1, .string sg, .slice none 0 0, .string ⟨#[]⟩] 54)) := (Below.refl _ _).alloc (Nat.le_refl _) _
    have b25 : Below A2.heap.size A2 (w5.alloc (.cells #[.int .i64 1, .string sg, .slice none 0 0, .string ⟨#[]⟩] 54)) := hb5'.trans (bal5.mono hs5)
    have q1 := run_cell (j := 1) ((b25.block _ (by omega)).trans HO.out) rfl
    have HR5 : Hid ((w5.alloc (.cells #[.int .i64 1, .string sg, .slice none 0 0, .string ⟨#[]⟩] 54)).heap[w.heap.size + 1]? = some (.cells #[.slice none 0 0] 58 (0, 0))) := (b25.block _ (by omega)).trans HR.out
    have hy : (w5.alloc (.cells #[.int .i64 1, .string sg, .slice none 0 0, .string ⟨#[]⟩] 54)).heap[w5.heap.size]? = some (.cells #[.int .i64 1, .string sg, .slice none 0 0, .string ⟨#[]⟩] 54 (0, 0)) := heap_alloc_new w5 _
    have y0 := run_cell (j := 0) hy rfl
    have y1 := run_cell (j := 1) hy rfl
    have y2 := run_cell (j := 2) hy rfl
    have y3 := run_cell (j := 3) hy rfl
    have HB5 : Hid (Below w.heap.size w (w5.alloc (.cells #[.int .i64 1, .string sg, .slice none 0 0, .string ⟨#[]⟩] 54))) := HB.out.trans (b25.mono HB.out.size)
    have HZ5 : Hid (w.heap.size + 2 ≤ (w5.alloc (.cells #[.int .i64 1, .string sg, .slice none 0 0, .string ⟨#[]⟩] 54)).heap.size) := by rw [Hid, World.size_alloc]; omega
    have r0 := run_cell (j := 0) HR5.out rfl
    have fr0 := run_frozen (j := 0) HR5.out
    clear hb5 hb5' bal5 b25 hy o0 o1 o2
    go_wp2_with fail
    generalize w5.alloc (.cells #[.int .i64 1, .string sg, .slice none 0 0, .string ⟨#[]⟩] 54) = W5 at *
    generalize w5.heap.size = Y at *
    refine wp_region_K (k := 10) (S := fun W => W.cell? ⟨w.heap.size, 1, none⟩ = some (.int .i64 lv) ∧ W.cell? ⟨Y, 0, none⟩ = some (.int .i64 1) ∧ W.cell? ⟨Y, 1, none⟩ = some (.string sg) ∧ W.cell? ⟨Y, 2, none⟩ = some (.slice none 0 0) ∧ W.cell? ⟨Y, 3, none⟩ = some (.string ⟨#[]⟩) ∧ W.cell? ⟨w.heap.size + 1, 0, none⟩ = some (.slice none 0 0) ∧ W.frozen? ⟨w.heap.size + 1, 0, none⟩ = false) (by kernel_rfl) ?_ (fun hHeld hcl => ?_)
    · exact ⟨q1, y0, y1, y2, y3, r0, fr0⟩
    refine wpAnyK_free (i := 0) (d := some 19) (v := ?pv0) (by assumption) rfl (by kernel_rfl) (by kernel_rfl) (by kernel_rfl) (by decide) (by rfl) (fun _ _ _ h => h) (Or.inl ⟨by rfl, ?ph0⟩) (.inr (by assumption)) (fun hcl0 => ?pr0)
    case ph0 => (intro w hSw; (try dsimp only at hSw); go_simp; first | done | with_reducible rfl)
    case' pr0 => (clear hcl; simp only [Act.put, List.setIfInBounds_toArray, List.set_cons_zero, List.set_cons_succ])
    refine wpAnyK_take [9, 8, 2, 1] (i := 1) (d := some 20) (v := ?pv1) (by assumption) rfl (by kernel_rfl) (by kernel_rfl) (by kernel_rfl) (by kernel_rfl) (by kernel_rfl) (by decide) (by rfl) (fun _ _ _ h => h) (Or.inl ⟨by rfl, ?ph1⟩) (by assumption) (fun hcl1 => ?pr1)
    case ph1 => (intro w hSw; (try dsimp only at hSw); go_simp; first | done | with_reducible rfl)
    case' pr1 => (clear hcl0; simp only [Act.put, List.setIfInBounds_toArray, List.set_cons_zero, List.set_cons_succ])
    refine wpAnyK_free (i := 3) (d := some 22) (v := ?pv3) (by assumption) rfl (by kernel_rfl) (by kernel_rfl) (by kernel_rfl) (by decide) (by rfl) (fun _ _ _ h => h) (Or.inl ⟨by rfl, ?ph3⟩) (.inr (by assumption)) (fun hcl3 => ?pr3)
    case ph3 => (intro w hSw; (try dsimp only at hSw); go_simp; first | done | with_reducible rfl)
    case' pr3 => (clear hcl1; simp only [Act.put, List.setIfInBounds_toArray, List.set_cons_zero, List.set_cons_succ])
    refine wpAnyK_take [9, 8, 5] (i := 5) (d := some 24) (v := ?pv5) (by assumption) rfl (by kernel_rfl) (by kernel_rfl) (by kernel_rfl) (by kernel_rfl) (by kernel_rfl) (by decide) (by rfl) (fun _ _ _ h => h) (Or.inl ⟨by rfl, ?ph5⟩) (by assumption) (fun hcl5 => ?pr5)
    case ph5 => (intro w hSw; (try dsimp only at hSw); go_simp; first | done | with_reducible rfl)
    case' pr5 => (clear hcl3; simp only [Act.put, List.setIfInBounds_toArray, List.set_cons_zero, List.set_cons_succ])
    refine wpAnyK_free (i := 6) (d := some 25) (v := ?pv6) (by assumption) rfl (by kernel_rfl) (by kernel_rfl) (by kernel_rfl) (by decide) (by rfl) (fun _ _ _ h => h) (Or.inl ⟨by rfl, ?ph6⟩) (.inr (by assumption)) (fun hcl6 => ?pr6)
    case ph6 => (intro w hSw; (try dsimp only at hSw); go_simp; first | done | with_reducible rfl)
    case' pr6 => (clear hcl5; simp only [Act.put, List.setIfInBounds_toArray, List.set_cons_zero, List.set_cons_succ])
    refine wpAnyK_one (i := 2) (by assumption) (by kernel_rfl) rfl (fun K hK => ?_)
    go_simp
    go_at_call 33
    refine (HIf.out _).mono ?_
    rintro e w6 ⟨hb6, a6, c6, rfl, ho6⟩
    go_simp
    have S6 := keepO ⟨q1, y0, y1, y2, y3, r0, fr0⟩ ((show Below W5.heap.size W5 w6 from ⟨hb6.os, hb6.tape, hb6.output, hb6.size, hb6.block⟩))
    refine hK.out _ _ S6 (fun hcl2 => ?_)
    clear hcl6
    refine wpAnyK_one (i := 4) (by assumption) (by kernel_rfl) rfl (fun K hK => ?_)
    go_simp
    go_at_call 20
    refine (HX1.out _).mono ?_
    rintro e w7 ⟨hb7, a7, c7, rfl, ho7⟩
    go_simp
    have S7 := keepO S6 (hb7)
    refine hK.out _ _ S7 (fun hcl4 => ?_)
    clear hcl2
    refine wpAnyK_one (i := 7) (by assumption) (by kernel_rfl) rfl (fun K hK => ?_)
    go_simp
    go_at_call 20
    refine (HX2.out _).mono ?_
    rintro e w8 ⟨hb8, a8, c8, rfl, ho8⟩
    go_simp
    have S8 := keepO S7 (hb8)
    refine hK.out _ _ S8 (fun hcl7 => ?_)
    clear hcl4
    have bal8 : Below w8.heap.size w8 (w8.alloc (.cells #[.int .i64 (ifD lv).kind, .string (ifD lv).text, .slice a6 (ifD lv).args.length c6, .string (ifD lv).bind, .int .i64 (callD (lv)).kind, .string (callD (lv)).text, .slice a7 (callD (lv)).args.length c7, .string (callD (lv)).bind, .int .i64 1, .string sg, .slice none 0 0, .string ⟨#[]⟩, .int .i64 (callD (lv + 1)).kind, .string (callD (lv + 1)).text, .slice a8 (callD (lv + 1)).args.length c8, .string (callD (lv + 1)).bind] 54)) := (Below.refl _ _).alloc (Nat.le_refl _) _
    refine wpAnyK_one (i := 8) (by assumption) (by kernel_rfl) rfl (fun K hK => ?_)
    go_simp
    refine hK.out _ _ (keepO S8 bal8) (fun hcl8 => ?_)
    refine wpAnyK_one (i := 9) (by assumption) (by kernel_rfl) rfl (fun K hK => ?_)
    go_simp
    refine hK.out _ _ (keepO S8 bal8) (fun hcl9 => ?_)
    obtain ⟨_, _, _, _, _, t0, tf⟩ := keepO S8 bal8
    refine wpAnyK_past (i := 10) (by assumption) (by kernel_rfl) rfl (by kernel_rfl) (fun K hK => ?_)
    go_simp
    refine hK.out _ _ (fun hcl10 => ?_)
    refine wpAnyK_done (by kernel_rfl) ?_
    clear hHeld hcl8 hcl9 hcl10 S6 S7
    have hw5 := HZ5.out
    have h6s : W5.heap.size ≤ w6.heap.size := hb6.size
    have h7s := hb7.size
    have h8s := hb8.size
    have r9 : RowF 4 54 SymF (Nw (w.heap.size + 2) (w8.heap.size + 1)) (.slice (some ⟨w8.heap.size, 0, none⟩) 4 4) (opAltD ⟨sg, lv, false⟩) (w8.alloc (.cells #[.int .i64 (ifD lv).kind, .string (ifD lv).text, .slice a6 (ifD lv).args.length c6, .string (ifD lv).bind, .int .i64 (callD (lv)).kind, .string (callD (lv)).text, .slice a7 (callD (lv)).args.length c7, .string (callD (lv)).bind, .int .i64 1, .string sg, .slice none 0 0, .string ⟨#[]⟩, .int .i64 (callD (lv + 1)).kind, .string (callD (lv + 1)).text, .slice a8 (callD (lv + 1)).args.length c8, .string (callD (lv + 1)).bind] 54)) := by
      have h := alt_four (a := w.heap.size + 2) (V := w8) (x1 := ifD lv) (x2 := callD (lv)) (x4 := callD (lv + 1)) (sg := sg) hw5 h6s h7s h8s (Nat.le_refl _) ((ho6.below stabExpr hb7).below stabExpr hb8) (ho7.below stabExpr hb8) ho8 #[.int .i64 (ifD lv).kind, .string (ifD lv).text, .slice a6 (ifD lv).args.length c6, .string (ifD lv).bind, .int .i64 (callD (lv)).kind, .string (callD (lv)).text, .slice a7 (callD (lv)).args.length c7, .string (callD (lv)).bind, .int .i64 1, .string sg, .slice none 0 0, .string ⟨#[]⟩, .int .i64 (callD (lv + 1)).kind, .string (callD (lv + 1)).text, .slice a8 (callD (lv + 1)).args.length c8, .string (callD (lv + 1)).bind] rfl
      exact h
    have hR8 : w8.heap[w.heap.size + 1]? = some (.cells #[.slice none 0 0] 58 (0, 0)) := (hb8.block _ (by omega)).trans ((hb7.block _ (by omega)).trans ((hb6.block _ (by show w.heap.size + 1 < W5.heap.size; omega)).trans HR5.out))
    have hb58 : Below w.heap.size w w8 := by
      have h1 : Below w.heap.size w w6 := HB5.out.trans ((show Below W5.heap.size W5 w6 from ⟨hb6.os, hb6.tape, hb6.output, hb6.size, hb6.block⟩).mono HB5.out.size)
      have h2 : Below w.heap.size w w7 := h1.trans (hb7.mono h1.size)
      exact h2.trans (hb8.mono h2.size)
    have hlt8 : w.heap.size + 1 < w8.heap.size := by omega
    clear ho6 ho7 ho8 hb6 hb7 hb8 S8 HC HIf HX1 HX2 HR5 HB5 q1 y0 y1 y2 y3 r0 fr0 t0 tf
    generalize hV0 : w8.alloc (.cells #[.int .i64 (ifD lv).kind, .string (ifD lv).text, .slice a6 (ifD lv).args.length c6, .string (ifD lv).bind, .int .i64 (callD (lv)).kind, .string (callD (lv)).text, .slice a7 (callD (lv)).args.length c7, .string (callD (lv)).bind, .int .i64 1, .string sg, .slice none 0 0, .string ⟨#[]⟩, .int .i64 (callD (lv + 1)).kind, .string (callD (lv + 1)).text, .slice a8 (callD (lv + 1)).args.length c8, .string (callD (lv + 1)).bind] 54) = V0 at *
    have hV0s : V0.heap.size = w8.heap.size + 1 := by rw [← hV0]; simp
    have hRV : V0.heap[w.heap.size + 1]? = some (.cells #[.slice none 0 0] 58 (0, 0)) := by rw [← hV0, Below.heap_alloc w8 _ _ hlt8]; exact hR8
    have z0 : (V0.setCell ⟨w.heap.size + 1, 0, none⟩ (.slice (some ⟨w8.heap.size, 0, none⟩) 4 4)).cell? ⟨w.heap.size + 1, 0, none⟩ = some (.slice (some ⟨w8.heap.size, 0, none⟩) 4 4) := run_cell (setCell_self (j := 0) _ hRV) rfl
    have HBf : Hid (Below w.heap.size w (V0.setCell ⟨w.heap.size + 1, 0, none⟩ (.slice (some ⟨w8.heap.size, 0, none⟩) 4 4))) := by
      rw [← hV0]
      exact (hb58.alloc (by omega) _).setCell (Nat.le_add_right _ 1) _
    have HRf : Hid (RowF 4 54 SymF (Nw w.heap.size (V0.setCell ⟨w.heap.size + 1, 0, none⟩ (.slice (some ⟨w8.heap.size, 0, none⟩) 4 4)).heap.size) (.slice (some ⟨w8.heap.size, 0, none⟩) 4 4) (opAltD ⟨sg, lv, false⟩) (V0.setCell ⟨w.heap.size + 1, 0, none⟩ (.slice (some ⟨w8.heap.size, 0, none⟩) 4 4))) := by
      have hz9 : (V0.setCell ⟨w.heap.size + 1, 0, none⟩ (.slice (some ⟨w8.heap.size, 0, none⟩) 4 4)).heap.size = V0.heap.size := by simp [World.setCell]
      have h9 : RowF 4 54 SymF (fun q => Nw w.heap.size (w8.heap.size + 1) q ∧ q ≠ w.heap.size + 1) (.slice (some ⟨w8.heap.size, 0, none⟩) 4 4) (opAltD ⟨sg, lv, false⟩) V0 := r9.up (fun q hq => ⟨⟨by have := hq.1; omega, hq.2⟩, by have := hq.1; omega⟩)
      exact (h9.ag stabSym ((Kp.store (F := fun q => q = w.heap.size + 1) (w := V0) (o := 0) (u := .slice (some ⟨w8.heap.size, 0, none⟩) 4 4) rfl).ag (fun q hq e => hq.2 e))).up (fun q hq => ⟨hq.1.1, by have := hq.1.2; omega⟩)
    clear hV0 hRV hR8 hb58 r9
    go_wp2
    refine bodyPost_ret (by simp [results, Try.results19, go_sem, z0]; try rfl) rfl ?_
    exact ⟨HBf.out, _, _, rfl, HRf.out⟩
  | true =>
    go_enter Try.func19, Try.ntmps19
    go_wp2_with fail
    go_quiet (fail)
    go_wp2_with fail
    rw [← HA.out]
    refine (HC.out _).mono ?_
    rintro e w5 ⟨rfl, hb5⟩
    have hb5' : Below A2.heap.size A2 w5 := ⟨hb5.os, hb5.tape, hb5.output, hb5.size, hb5.block⟩
    have hz := HZ.out
    have hs5 : A2.heap.size ≤ w5.heap.size := hb5'.size
    have bal5 : Below w5.heap.size w5 (w5.alloc (.cells #[.int .i64 1, .string sg, .slice none 0 0, .string ⟨#[]⟩] 54)) := (Below.refl _ _).alloc (Nat.le_refl _) _
    have b25 : Below A2.heap.size A2 (w5.alloc (.cells #[.int .i64 1, .string sg, .slice none 0 0, .string ⟨#[]⟩] 54)) := hb5'.trans (bal5.mono hs5)
    have q1 := run_cell (j := 1) ((b25.block _ (by omega)).trans HO.out) rfl
    have HR5 : Hid ((w5.alloc (.cells #[.int .i64 1, .string sg, .slice none 0 0, .string ⟨#[]⟩] 54)).heap[w.heap.size + 1]? = some (.cells #[.slice none 0 0] 58 (0, 0))) := (b25.block _ (by omega)).trans HR.out
    have hy : (w5.alloc (.cells #[.int .i64 1, .string sg, .slice none 0 0, .string ⟨#[]⟩] 54)).heap[w5.heap.size]? = some (.cells #[.int .i64 1, .string sg, .slice none 0 0, .string ⟨#[]⟩] 54 (0, 0)) := heap_alloc_new w5 _
    have y0 := run_cell (j := 0) hy rfl
    have y1 := run_cell (j := 1) hy rfl
    have y2 := run_cell (j := 2) hy rfl
    have y3 := run_cell (j := 3) hy rfl
    have HB5 : Hid (Below w.heap.size w (w5.alloc (.cells #[.int .i64 1, .string sg, .slice none 0 0, .string ⟨#[]⟩] 54))) := HB.out.trans (b25.mono HB.out.size)
    have HZ5 : Hid (w.heap.size + 2 ≤ (w5.alloc (.cells #[.int .i64 1, .string sg, .slice none 0 0, .string ⟨#[]⟩] 54)).heap.size) := by rw [Hid, World.size_alloc]; omega
    have r0 := run_cell (j := 0) HR5.out rfl
    have fr0 := run_frozen (j := 0) HR5.out
    clear hb5 hb5' bal5 b25 hy o0 o1 o2
    go_wp2_with fail
    generalize w5.alloc (.cells #[.int .i64 1, .string sg, .slice none 0 0, .string ⟨#[]⟩] 54) = W5 at *
    generalize w5.heap.size = Y at *
    refine wp_region_K (k := 10) (S := fun W => W.cell? ⟨w.heap.size, 1, none⟩ = some (.int .i64 lv) ∧ W.cell? ⟨Y, 0, none⟩ = some (.int .i64 1) ∧ W.cell? ⟨Y, 1, none⟩ = some (.string sg) ∧ W.cell? ⟨Y, 2, none⟩ = some (.slice none 0 0) ∧ W.cell? ⟨Y, 3, none⟩ = some (.string ⟨#[]⟩) ∧ W.cell? ⟨w.heap.size + 1, 0, none⟩ = some (.slice none 0 0) ∧ W.frozen? ⟨w.heap.size + 1, 0, none⟩ = false) (by kernel_rfl) ?_ (fun hHeld hcl => ?_)
    · exact ⟨q1, y0, y1, y2, y3, r0, fr0⟩
    refine wpAnyK_free (i := 0) (d := some 19) (v := ?qv0) (by assumption) rfl (by kernel_rfl) (by kernel_rfl) (by kernel_rfl) (by decide) (by rfl) (fun _ _ _ h => h) (Or.inl ⟨by rfl, ?qh0⟩) (.inr (by assumption)) (fun hcl0 => ?qr0)
    case qh0 => (intro w hSw; (try dsimp only at hSw); go_simp; first | done | with_reducible rfl)
    case' qr0 => (clear hcl; simp only [Act.put, List.setIfInBounds_toArray, List.set_cons_zero, List.set_cons_succ])
    refine wpAnyK_take [9, 8, 2, 1] (i := 1) (d := some 20) (v := ?qv1) (by assumption) rfl (by kernel_rfl) (by kernel_rfl) (by kernel_rfl) (by kernel_rfl) (by kernel_rfl) (by decide) (by rfl) (fun _ _ _ h => h) (Or.inl ⟨by rfl, ?qh1⟩) (by assumption) (fun hcl1 => ?qr1)
    case qh1 => (intro w hSw; (try dsimp only at hSw); go_simp; first | done | with_reducible rfl)
    case' qr1 => (clear hcl0; simp only [Act.put, List.setIfInBounds_toArray, List.set_cons_zero, List.set_cons_succ])
    refine wpAnyK_free (i := 3) (d := some 22) (v := ?qv3) (by assumption) rfl (by kernel_rfl) (by kernel_rfl) (by kernel_rfl) (by decide) (by rfl) (fun _ _ _ h => h) (Or.inl ⟨by rfl, ?qh3⟩) (.inr (by assumption)) (fun hcl3 => ?qr3)
    case qh3 => (intro w hSw; (try dsimp only at hSw); go_simp; first | done | with_reducible rfl)
    case' qr3 => (clear hcl1; simp only [Act.put, List.setIfInBounds_toArray, List.set_cons_zero, List.set_cons_succ])
    refine wpAnyK_take [9, 8, 5] (i := 5) (d := some 24) (v := ?qv5) (by assumption) rfl (by kernel_rfl) (by kernel_rfl) (by kernel_rfl) (by kernel_rfl) (by kernel_rfl) (by decide) (by rfl) (fun _ _ _ h => h) (Or.inl ⟨by rfl, ?qh5⟩) (by assumption) (fun hcl5 => ?qr5)
    case qh5 => (intro w hSw; (try dsimp only at hSw); go_simp; first | done | with_reducible rfl)
    case' qr5 => (clear hcl3; simp only [Act.put, List.setIfInBounds_toArray, List.set_cons_zero, List.set_cons_succ])
    refine wpAnyK_free (i := 6) (d := some 25) (v := ?qv6) (by assumption) rfl (by kernel_rfl) (by kernel_rfl) (by kernel_rfl) (by decide) (by rfl) (fun _ _ _ h => h) (Or.inl ⟨by rfl, ?qh6⟩) (.inr (by assumption)) (fun hcl6 => ?qr6)
    case qh6 => (intro w hSw; (try dsimp only at hSw); go_simp; first | done | with_reducible rfl)
    case' qr6 => (clear hcl5; simp only [Act.put, List.setIfInBounds_toArray, List.set_cons_zero, List.set_cons_succ])
    refine wpAnyK_one (i := 2) (by assumption) (by kernel_rfl) rfl (fun K hK => ?_)
    go_simp
    go_at_call 33
    refine (HIf.out _).mono ?_
    rintro e w6 ⟨hb6, a6, c6, rfl, ho6⟩
    go_simp
    have S6 := keepO ⟨q1, y0, y1, y2, y3, r0, fr0⟩ ((show Below W5.heap.size W5 w6 from ⟨hb6.os, hb6.tape, hb6.output, hb6.size, hb6.block⟩))
    refine hK.out _ _ S6 (fun hcl2 => ?_)
    clear hcl6
    refine wpAnyK_one (i := 4) (by assumption) (by kernel_rfl) rfl (fun K hK => ?_)
    go_simp
    go_at_call 20
    refine (HX2.out _).mono ?_
    rintro e w7 ⟨hb7, a7, c7, rfl, ho7⟩
    go_simp
    have S7 := keepO S6 (hb7)
    refine hK.out _ _ S7 (fun hcl4 => ?_)
    clear hcl2
    refine wpAnyK_one (i := 7) (by assumption) (by kernel_rfl) rfl (fun K hK => ?_)
    go_simp
    go_at_call 20
    refine (HX1.out _).mono ?_
    rintro e w8 ⟨hb8, a8, c8, rfl, ho8⟩
    go_simp
    have S8 := keepO S7 (hb8)
    refine hK.out _ _ S8 (fun hcl7 => ?_)
    clear hcl4
    have bal8 : Below w8.heap.size w8 (w8.alloc (.cells #[.int .i64 (ifD lv).kind, .string (ifD lv).text, .slice a6 (ifD lv).args.length c6, .string (ifD lv).bind, .int .i64 (callD (lv + 1)).kind, .string (callD (lv + 1)).text, .slice a7 (callD (lv + 1)).args.length c7, .string (callD (lv + 1)).bind, .int .i64 1, .string sg, .slice none 0 0, .string ⟨#[]⟩, .int .i64 (callD (lv)).kind, .string (callD (lv)).text, .slice a8 (callD (lv)).args.length c8, .string (callD (lv)).bind] 54)) := (Below.refl _ _).alloc (Nat.le_refl _) _
    refine wpAnyK_one (i := 8) (by assumption) (by kernel_rfl) rfl (fun K hK => ?_)
    go_simp
    refine hK.out _ _ (keepO S8 bal8) (fun hcl8 => ?_)
    refine wpAnyK_one (i := 9) (by assumption) (by kernel_rfl) rfl (fun K hK => ?_)
    go_simp
    refine hK.out _ _ (keepO S8 bal8) (fun hcl9 => ?_)
    obtain ⟨_, _, _, _, _, t0, tf⟩ := keepO S8 bal8
    refine wpAnyK_past (i := 10) (by assumption) (by kernel_rfl) rfl (by kernel_rfl) (fun K hK => ?_)
    go_simp
    refine hK.out _ _ (fun hcl10 => ?_)
    refine wpAnyK_done (by kernel_rfl) ?_
    clear hHeld hcl8 hcl9 hcl10 S6 S7
    have hw5 := HZ5.out
    have h6s : W5.heap.size ≤ w6.heap.size := hb6.size
    have h7s := hb7.size
    have h8s := hb8.size
    have r9 : RowF 4 54 SymF (Nw (w.heap.size + 2) (w8.heap.size + 1)) (.slice (some ⟨w8.heap.size, 0, none⟩) 4 4) (opAltD ⟨sg, lv, true⟩) (w8.alloc (.cells #[.int .i64 (ifD lv).kind, .string (ifD lv).text, .slice a6 (ifD lv).args.length c6, .string (ifD lv).bind, .int .i64 (callD (lv + 1)).kind, .string (callD (lv + 1)).text, .slice a7 (callD (lv + 1)).args.length c7, .string (callD (lv + 1)).bind, .int .i64 1, .string sg, .slice none 0 0, .string ⟨#[]⟩, .int .i64 (callD (lv)).kind, .string (callD (lv)).text, .slice a8 (callD (lv)).args.length c8, .string (callD (lv)).bind] 54)) := by
      have h := alt_four (a := w.heap.size + 2) (V := w8) (x1 := ifD lv) (x2 := callD (lv + 1)) (x4 := callD (lv)) (sg := sg) hw5 h6s h7s h8s (Nat.le_refl _) ((ho6.below stabExpr hb7).below stabExpr hb8) (ho7.below stabExpr hb8) ho8 #[.int .i64 (ifD lv).kind, .string (ifD lv).text, .slice a6 (ifD lv).args.length c6, .string (ifD lv).bind, .int .i64 (callD (lv + 1)).kind, .string (callD (lv + 1)).text, .slice a7 (callD (lv + 1)).args.length c7, .string (callD (lv + 1)).bind, .int .i64 1, .string sg, .slice none 0 0, .string ⟨#[]⟩, .int .i64 (callD (lv)).kind, .string (callD (lv)).text, .slice a8 (callD (lv)).args.length c8, .string (callD (lv)).bind] rfl
      exact h
    have hR8 : w8.heap[w.heap.size + 1]? = some (.cells #[.slice none 0 0] 58 (0, 0)) := (hb8.block _ (by omega)).trans ((hb7.block _ (by omega)).trans ((hb6.block _ (by show w.heap.size + 1 < W5.heap.size; omega)).trans HR5.out))
    have hb58 : Below w.heap.size w w8 := by
      have h1 : Below w.heap.size w w6 := HB5.out.trans ((show Below W5.heap.size W5 w6 from ⟨hb6.os, hb6.tape, hb6.output, hb6.size, hb6.block⟩).mono HB5.out.size)
      have h2 : Below w.heap.size w w7 := h1.trans (hb7.mono h1.size)
      exact h2.trans (hb8.mono h2.size)
    have hlt8 : w.heap.size + 1 < w8.heap.size := by omega
    clear ho6 ho7 ho8 hb6 hb7 hb8 S8 HC HIf HX1 HX2 HR5 HB5 q1 y0 y1 y2 y3 r0 fr0 t0 tf
    generalize hV0 : w8.alloc (.cells #[.int .i64 (ifD lv).kind, .string (ifD lv).text, .slice a6 (ifD lv).args.length c6, .string (ifD lv).bind, .int .i64 (callD (lv + 1)).kind, .string (callD (lv + 1)).text, .slice a7 (callD (lv + 1)).args.length c7, .string (callD (lv + 1)).bind, .int .i64 1, .string sg, .slice none 0 0, .string ⟨#[]⟩, .int .i64 (callD (lv)).kind, .string (callD (lv)).text, .slice a8 (callD (lv)).args.length c8, .string (callD (lv)).bind] 54) = V0 at *
    have hV0s : V0.heap.size = w8.heap.size + 1 := by rw [← hV0]; simp
    have hRV : V0.heap[w.heap.size + 1]? = some (.cells #[.slice none 0 0] 58 (0, 0)) := by rw [← hV0, Below.heap_alloc w8 _ _ hlt8]; exact hR8
    have z0 : (V0.setCell ⟨w.heap.size + 1, 0, none⟩ (.slice (some ⟨w8.heap.size, 0, none⟩) 4 4)).cell? ⟨w.heap.size + 1, 0, none⟩ = some (.slice (some ⟨w8.heap.size, 0, none⟩) 4 4) := run_cell (setCell_self (j := 0) _ hRV) rfl
    have HBf : Hid (Below w.heap.size w (V0.setCell ⟨w.heap.size + 1, 0, none⟩ (.slice (some ⟨w8.heap.size, 0, none⟩) 4 4))) := by
      rw [← hV0]
      exact (hb58.alloc (by omega) _).setCell (Nat.le_add_right _ 1) _
    have HRf : Hid (RowF 4 54 SymF (Nw w.heap.size (V0.setCell ⟨w.heap.size + 1, 0, none⟩ (.slice (some ⟨w8.heap.size, 0, none⟩) 4 4)).heap.size) (.slice (some ⟨w8.heap.size, 0, none⟩) 4 4) (opAltD ⟨sg, lv, true⟩) (V0.setCell ⟨w.heap.size + 1, 0, none⟩ (.slice (some ⟨w8.heap.size, 0, none⟩) 4 4))) := by
      have hz9 : (V0.setCell ⟨w.heap.size + 1, 0, none⟩ (.slice (some ⟨w8.heap.size, 0, none⟩) 4 4)).heap.size = V0.heap.size := by simp [World.setCell]
      have h9 : RowF 4 54 SymF (fun q => Nw w.heap.size (w8.heap.size + 1) q ∧ q ≠ w.heap.size + 1) (.slice (some ⟨w8.heap.size, 0, none⟩) 4 4) (opAltD ⟨sg, lv, true⟩) V0 := r9.up (fun q hq => ⟨⟨by have := hq.1; omega, hq.2⟩, by have := hq.1; omega⟩)
      exact (h9.ag stabSym ((Kp.store (F := fun q => q = w.heap.size + 1) (w := V0) (o := 0) (u := .slice (some ⟨w8.heap.size, 0, none⟩) 4 4) rfl).ag (fun q hq e => hq.2 e))).up (fun q hq => ⟨hq.1.1, by have := hq.1.2; omega⟩)
    clear hV0 hRV hR8 hb58 r9
    go_wp2
    refine bodyPost_ret (by simp [results, Try.results19, go_sem, z0]; try rfl) rfl ?_
    exact ⟨HBf.out, _, _, rfl, HRf.out⟩
end Go.Proofs.Ytbjkfecailnelaa
