/- The law on names that an expression does not have, walked. -/
import Derived.Test.YtokgkjfgknjbbaaDoorEnvAny
import Derived.Test.YtokgkjfgknjbbaaDoorXWrong0
import Derived.Test.YtokgkjfgknjbbaaDoorXFreeL
import Derived.Test.YtokgkjfgknjbbaaDoorXFreeJ
namespace Go.Proofs.YtokgkjfgknjbbaaDoor
open Go.RowKit

theorem drawEnv_any (W : World) (v : Value) (n : Nat) (w : World) (hn : n ≤ 1000000000000) (hcode : CodeRow W v n) (hb : Below W.heap.size W w) :
    Calls Tryd.prog 10 #[v] w fun e w' => ∃ o xs, e = .returned o ∧ EnvGood xs 4 ∧ OwnV w.heap.size o xs w' ∧ Below w.heap.size w w' := by
  have HC : Hid (CodeRow W v n) := hcode
  have HB : Hid (Below W.heap.size W w) := hb
  clear hcode hb
  go_enter Tryd.func10, Tryd.ntmps10
  go_wp2_with fail
  refine (new_any W v n _ hn HC.out HB.out).mono ?_
  rintro e w1 ⟨g, rfl, hc1, hb1, hg⟩
  have H1 : Hid (Cur W v n g w1) := hc1
  have B1 : Hid (Below w.heap.size w w1) := hb1
  clear hc1 hb1
  go_wp2_with fail
  refine (env_any W v n g _ hn HC.out H1.out).mono ?_
  rintro e w2 ⟨o, xs, rfl, hgood, ho, hw2⟩
  have B2 : Hid (Below w.heap.size w w2) := B1.out.trans (went_bel hw2 B1.out.size hg)
  have HO : Hid (OwnV w.heap.size o xs w2) := World.ownsRow.mono ho B1.out.size
  clear hw2 ho
  go_wp2
  go_ret
  exact ⟨_, _, rfl, hgood, HO.out, B2.out⟩

end Go.Proofs.YtokgkjfgknjbbaaDoor

namespace Go.Proofs.YtokgkjfgknjbbaaDoor
open Go.RowKit

theorem big_free (a : Option Addr) (n cap : Nat) (w : World) :
    Calls Tryd.prog 8 #[.slice a n cap] w fun e w' => e = .returned (.bool (decide (1048576 < (n : Int)))) ∧ w' = w := by
  go_enter Tryd.func8, Tryd.ntmps8
  go_wp2
  go_ret
  exact ⟨rfl, rfl⟩
theorem keep_two {W W' : World} {a b : Addr} {x y : Value} (h : W.cell? a = some x ∧ W.cell? b = some y) (hb : Below W.heap.size W W') : W'.cell? a = some x ∧ W'.cell? b = some y :=
  ⟨cell_keep h.1 hb, cell_keep h.2 hb⟩
theorem freeB_short (ns : List NodeD) : (freeB ns).length ≤ 1048576 := by
  unfold freeB
  split
  · rename_i h
    rw [exprB, Bool.and_eq_true, inI, decide_eq_true_eq] at h
    have := freeF_len ns ns.length (Nat.le_refl _)
    rw [List.take_of_length_le (Nat.le_refl _)] at this
    have h2 : 2 ^ ns.length ≤ 2 ^ 20 := Nat.pow_le_pow_right (by omega) (by omega)
    have h3 : (2 : Nat) ^ 20 = 1048576 := by decide
    omega
  · simp

set_option maxHeartbeats 6400000 in
set_option maxRecDepth 100000 in
theorem fnExprFree_walk (a : Option Addr) (n cap : Nat) (w : World) (hcode : CodeRow w (.slice a n cap) n) (hg : errTy w) :
    Calls Tryd.prog 3 #[.slice a n cap] w fun e w' => e = .returned (.bool true) ∧ Below w.heap.size w w' := by
  have HC : Hid (CodeRow w (.slice a n cap) n) := hcode
  have HG : Hid (errTy w) := hg
  clear hcode hg
  by_cases hbig : 1048576 < (n : Int)
  · have HBg : Hid (∀ W, _) := fun W => big_free a n cap W
    go_enter Tryd.func3, Tryd.ntmps3
    go_wp2_with fail
    refine (HBg.out _).mono ?_
    rw [decide_eq_true hbig]
    rintro e wq ⟨rfl, hw⟩
    rw [hw]
    clear hw wq
    go_wp2
    go_ret
    exact ⟨rfl, Below.refl _ _⟩
  have HBg : Hid (∀ W, Calls Tryd.prog 8 #[.slice a n cap] W fun e w' => e = .returned (.bool false) ∧ w' = W) := fun W => by
    have := big_free a n cap W
    rwa [decide_eq_false hbig] at this
  have hn : n ≤ 1000000000000 := by omega
  go_enter Tryd.func3, Tryd.ntmps3
  go_wp2_with fail
  refine (HBg.out _).mono ?_
  rintro e wq ⟨rfl, hw⟩
  rw [hw]
  clear hw wq HBg
  go_wp2_with fail
  refine (drawExpr_any w (.slice a n cap) n w hn HC.out (Below.refl _ _)).mono ?_
  rintro e w1 ⟨o1, ns, rfl, ho1, hgood, hl1, hl7, hb1⟩
  have HEx : Hid (exprB ns = true) := exprB_good hgood hl1 (by omega)
  have HNI : Hid (NIn ns) := nIn_right hgood (by omega)
  obtain ⟨ao, co, rfl⟩ := ho1.row.slice
  have hco := ownN_cap ho1
  have B1 : Hid (Below w.heap.size w (w1.alloc (.cells #[.slice ao ns.length co] 26))) := hb1.alloc hb1.size _
  have bal1 : Below w1.heap.size w1 (w1.alloc (.cells #[.slice ao ns.length co] 26)) := (Below.refl _ _).alloc (Nat.le_refl _) _
  have N1 : Hid (NRow (w1.alloc (.cells #[.slice ao ns.length co] 26)) (.slice ao ns.length co) ns) := ho1.row.below bal1
  have E1 := lit_one w1 (.slice ao ns.length co) 26
  clear hgood ho1 hb1 bal1
  go_wp2_with fail
  generalize (w1.alloc (.cells #[.slice ao ns.length co] 26)) = wb at *
  generalize w1.heap.size = be at *
  refine (drawEnv_any w (.slice a n cap) n _ hn HC.out B1.out).mono ?_
  rintro e w2 ⟨ov, xs, rfl, henv, hov, hb2⟩
  have hxl : xs.length ≤ 4 := henv.2.1
  have V2 : Hid (VRow w2 ov xs) := hov.row
  have N2 : Hid (NRow w2 (.slice ao ns.length co) ns) := N1.out.below hb2
  have B2 : Hid (Below w.heap.size w w2) := B1.out.trans (hb2.mono B1.out.size)
  have E2 := cell_keep E1 hb2
  obtain ⟨av, cv, rfl⟩ := hov.row.slice
  clear hb2 hov henv E1 N1 B1
  have HF2 : Hid (_) := implFreeOf_any (.slice ao ns.length co) ns w2 (HG.out.below B2.out) N2.out
  go_wp2_with fail
  refine Calls.mono HF2.out ?_
  rintro e w3 ⟨fo, rfl, hfo, hb3⟩
  have hfl := freeB_short ns
  have F3 : Hid (SRow w3 fo (freeB ns)) := hfo.row
  have V3 : Hid (VRow w3 (.slice av xs.length cv) xs) := V2.out.below hb3
  have N3 : Hid (NRow w3 (.slice ao ns.length co) ns) := N2.out.below hb3
  have B3 : Hid (Below w.heap.size w w3) := B2.out.trans (hb3.mono B2.out.size)
  have E3 := cell_keep E2 hb3
  obtain ⟨af, cf, rfl⟩ := hfo.row.slice
  clear hb3 hfo HF2 V2 N2 B2 E2
  obtain ⟨z, bz, hval⟩ := optV_form (evalB ns (getB xs) 3)
  have HI : Hid (∀ W : World, errTy W → NRow W (.slice ao ns.length co) ns → VRow W (.slice av xs.length cv) xs → Calls Tryd.prog 12 #[.agg #[.slice ao ns.length co], .slice av xs.length cv, .int .i64 3] W fun e w' => e = .returned (.tuple #[.int .i64 z, .bool bz]) ∧ Below W.heap.size W w') := fun W hb hv hu => by
    rw [← hval]; exact implEvalExpr_any _ _ ns xs 3 W hb (by omega) hv hu
  have HI2 : Hid (∀ (W : World) (u : Value), errTy W → NRow W (.slice ao ns.length co) ns → VRow W u (onlyB xs (freeB ns)) → Calls Tryd.prog 12 #[.agg #[.slice ao ns.length co], u, .int .i64 3] W fun e w' => e = .returned (.tuple #[.int .i64 z, .bool bz]) ∧ Below W.heap.size W w') := fun W u hb hv hu => by
    rw [← hval, ← eval_only HEx.out xs 3]
    exact implEvalExpr_any _ _ ns _ 3 W hb (Nat.le_trans (List.length_filter_le _ _) (by omega)) hv hu
  have HOn : Hid (∀ W : World, VRow W (.slice av xs.length cv) xs → SRow W (.slice af (freeB ns).length cf) (freeB ns) → Calls Tryd.prog 13 #[.slice av xs.length cv, .slice af (freeB ns).length cf] W fun e w' => ∃ o, e = .returned o ∧ OwnV W.heap.size o (onlyB xs (freeB ns)) w' ∧ Below W.heap.size W w') := fun W h h' => specEnvOnly_any _ _ xs (freeB ns) W (by omega) (freeB_short ns) h h'
  clear hval
  go_wp2_with fail
  refine (HI.out _ (HG.out.below B3.out) N3.out V3.out).mono ?_
  rintro e w4 ⟨rfl, hb4⟩
  have F4 : Hid (SRow w4 (.slice af (freeB ns).length cf) (freeB ns)) := F3.out.below hb4
  have V4 : Hid (VRow w4 (.slice av xs.length cv) xs) := V3.out.below hb4
  have N4 : Hid (NRow w4 (.slice ao ns.length co) ns) := N3.out.below hb4
  have B4 : Hid (Below w.heap.size w w4) := B3.out.trans (hb4.mono B3.out.size)
  have E4 := cell_keep E3 hb4
  have HTy4 : Hid (errTy w4) := HG.out.below B4.out
  clear hb4 F3 V3 N3 B3 E3 HI
  go_wp2
  go_region_held3 (fun W => W.cell? ⟨be, 0, none⟩ = some (.slice ao ns.length co))
    ((first | exact cell_keep (by assumption) hb6 | exact cell_keep (by assumption) hb5 | go_keep))
    ((first
      | (go_at_call 12; refine (HI2.out _ _ ((HTy4.out.below (bel_drewN (Below.refl _ _) 1)).below hb5) ((N4.out.below (bel_drewN (Below.refl _ _) 1)).below hb5) ho5.row).mono ?_; rintro e w6 ⟨rfl, hb6⟩)
      | (go_at_call 13; refine (HOn.out _ (V4.out.below (bel_drewN (Below.refl _ _) 1)) (F4.out.below (bel_drewN (Below.refl _ _) 1))).mono ?_; rintro e w5 ⟨o5, rfl, ho5, hb5⟩)))
  have B5 := B4.out.trans ((bel_of_drew hb5).mono B4.out.size)
  have B6 : Hid (Below w.heap.size w w6) := B5.trans (hb6.mono B5.size)
  have F6 : Hid (SRow w6 (.slice af (freeB ns).length cf) (freeB ns)) := (F4.out.below (bel_of_drew hb5)).below hb6
  have N6 : Hid (NRow w6 (.slice ao ns.length co) ns) := (N4.out.below (bel_of_drew hb5)).below hb6
  have E6 := cell_keep (cell_keep E4 (bel_of_drew hb5)) hb6
  have HHas : Hid (∀ k (hk : k < ns.length), ns[k].op = 2 → Calls Tryd.prog 14 #[.slice af (freeB ns).length cf, .string ns[k].name] w6 fun e w' => e = .returned (.bool true) ∧ w' = w6) := fun k hk h2 => has_is _ (freeB ns) _ true ((inB_iff _ _).2 (mem_free HEx.out hk h2)) w6 (freeB_short ns) F6.out
  clear hb5 hb6 ho5 B5 F4 V4 N4 B4 E4 HTy4 HI2 HOn
  go_wp2
  go_loopw [10] (fun iv wr => ∃ k : Nat, iv = .int .i64 k ∧ k ≤ ns.length ∧ wr = w6) (fun iv _ => ns.length - (intOf iv).toNat)
  case atStart => exact ⟨0, rfl, Nat.zero_le _, rfl⟩
  case round =>
    obtain ⟨k, rfl, hk, hwr⟩ := hrel
    subst hwr
    by_cases hlt : k < ns.length
    · have i4 : (k : Int) < (ns.length : Int) := by omega
      obtain ⟨bb, off, kv, rfl, ⟨x0, x1, x2, x3, x4⟩⟩ := N6.out.at hlt
      by_cases h2 : ns[k].op = 2
      · have HH : Hid (_) := HHas.out k hlt h2
        rw [h2] at x0
        clear h2
        go_wp2_with fail
        refine Calls.mono HH.out ?_
        rintro e wq ⟨rfl, hw⟩
        rw [hw]
        clear hw wq
        go_wp2
        go_roundw
        case rel => exact ⟨k + 1, by go_num, by omega, by first | exact trivial | rfl⟩
        case measure => simp [intOf]; omega
      · have m2 : (ns[k].op == 2) = false := by simpa using h2
        go_wp2
        go_roundw
        case rel => exact ⟨k + 1, by go_num, by omega, by first | exact trivial | rfl⟩
        case measure => simp [intOf]; omega
    · obtain rfl : k = ns.length := by omega
      go_wp2_with fail
      refine (drawFreeOf_any w (.slice a n cap) n wr hn HC.out B6.out).mono ?_
      rintro e w20 ⟨ox, nx, rfl, hNx, hIx, hb20⟩
      obtain ⟨ax, cx, rfl⟩ := hNx.slice
      have bal : Below w20.heap.size w20 (w20.alloc (.cells #[.slice ax nx.length cx] 26)) := (Below.refl _ _).alloc (Nat.le_refl _) _
      have b21 : Below wr.heap.size wr (w20.alloc (.cells #[.slice ax nx.length cx] 26)) := hb20.trans (bal.mono hb20.size)
      have N21 : Hid (NRow (w20.alloc (.cells #[.slice ax nx.length cx] 26)) (.slice ax nx.length cx) nx) := hNx.below bal
      have NE : Hid (NRow (w20.alloc (.cells #[.slice ax nx.length cx] 26)) (.slice ao ns.length co) ns) := N6.out.below b21
      have HFr : Hid (SRow (w20.alloc (.cells #[.slice ax nx.length cx] 26)) (.slice af (freeB ns).length cf) (freeB ns)) := F6.out.below b21
      have E21 := cell_keep E6 b21
      have cb := lit_one w20 (.slice ax nx.length cx) 26
      have B21 : Hid (Below w.heap.size w (w20.alloc (.cells #[.slice ax nx.length cx] 26))) := B6.out.trans (b21.mono B6.out.size)
      have HTy : Hid (errTy (w20.alloc (.cells #[.slice ax nx.length cx] 26))) := HG.out.below B21.out
      have HIn : Hid (NIn nx) := hIx
      have HOk : Hid (∀ W : World, errTy W → NRow W (.slice ao ns.length co) ns → Calls Tryd.prog 18 #[.agg #[.slice ao ns.length co]] W fun e w' => e = .returned (.bool true) ∧ Below W.heap.size W w') := fun W h1 h => by
        have := implExprOk_any _ ns W h1 h
        rwa [HEx.out] at this
      have HSe : Hid (∀ W : World, NRow W (.slice ao ns.length co) ns → Calls Tryd.prog 17 #[.agg #[.slice ao ns.length co]] W fun e w' => ∃ o, e = .returned o ∧ OwnB W.heap.size o (freeB ns) w' ∧ Below W.heap.size W w') := fun W h => specFreeOf_any _ ns W HNI.out h
      have HSx : Hid (∀ W : World, NRow W (.slice ax nx.length cx) nx → Calls Tryd.prog 17 #[.agg #[.slice ax nx.length cx]] W fun e w' => ∃ o, e = .returned o ∧ OwnB W.heap.size o (freeB nx) w' ∧ Below W.heap.size W w') := fun W h => specFreeOf_any _ nx W HIn.out h
      have HIx2 : Hid (∀ W : World, errTy W → NRow W (.slice ax nx.length cx) nx → Calls Tryd.prog 11 #[.agg #[.slice ax nx.length cx]] W fun e w' => ∃ o, e = .returned o ∧ OwnB W.heap.size o (freeB nx) w' ∧ Below W.heap.size W w') := fun W h1 h => implFreeOf_any _ nx W h1 h
      have HSam : Hid (∀ (W : World) (u v : Value), SRow W u (freeB ns) → SRow W v (freeB ns) → Calls Tryd.prog 16 #[u, v] W fun e w' => e = .returned (.bool true) ∧ Below W.heap.size W w') := fun W u v h h' => sameTexts_any u v (freeB ns) W (freeB_short ns) h h'
      have HSamX : Hid (∀ (W : World) (u v : Value), SRow W u (freeB nx) → SRow W v (freeB nx) → Calls Tryd.prog 16 #[u, v] W fun e w' => e = .returned (.bool true) ∧ Below W.heap.size W w') := fun W u v h h' => sameTexts_any u v (freeB nx) W (freeB_short nx) h h'
      clear hNx hIx hb20 bal b21 HHas F6 N6 B6 E6
      go_wp2
      generalize (w20.alloc (.cells #[.slice ax nx.length cx] 26)) = w21 at *
      generalize w20.heap.size = b16 at *
      generalize freeB ns = fs at *
      by_cases hz : fs.length = 0
      · obtain rfl := List.eq_nil_of_length_eq_zero hz
        go_region_held3 (fun W => W.cell? ⟨be, 0, none⟩ = some (.slice ao ns.length co) ∧ W.cell? ⟨b16, 0, none⟩ = some (.slice ax nx.length cx))
          ((first | exact keep_two (by assumption) hb7 | exact keep_two (by assumption) hb6 | exact keep_two (by assumption) hb5 | exact keep_two (by assumption) hb4 | exact keep_two (by assumption) hb3 | exact keep_two (by assumption) hb2 | exact keep_two (by assumption) hb1 | go_keep))
          ((first
            | (go_at_call 18; refine (HOk.out _ (((((((HTy.out.below (bel_drewN (Below.refl _ _) 1)).below hb1).below hb2).below hb3).below hb4).below hb5).below hb6) (((((((NE.out.below (bel_drewN (Below.refl _ _) 1)).below hb1).below hb2).below hb3).below hb4).below hb5).below hb6)).mono ?_; rintro e v7 ⟨rfl, hb7⟩)
            | (go_at_call 17; refine (HSe.out _ ((((((NE.out.below (bel_drewN (Below.refl _ _) 1)).below hb1).below hb2).below hb3).below hb4).below hb5)).mono ?_; rintro e v6 ⟨o6, rfl, hO6, hb6⟩; obtain ⟨a6, c6, rfl⟩ := hO6.row.slice)
            | (go_at_call 16; refine (HSam.out _ _ _ ((((((HFr.out.below (bel_drewN (Below.refl _ _) 1)).below hb1).below hb2).below hb3).below hb4)) hO4.row).mono ?_; rintro e v5 ⟨rfl, hb5⟩)
            | (go_at_call 17; refine (HSe.out _ ((((NE.out.below (bel_drewN (Below.refl _ _) 1)).below hb1).below hb2).below hb3)).mono ?_; rintro e v4 ⟨o4, rfl, hO4, hb4⟩)
            | (go_at_call 16; refine (HSamX.out _ _ _ (hO1.row.below hb2) hO2.row).mono ?_; rintro e v3 ⟨rfl, hb3⟩)
            | (go_at_call 17; refine (HSx.out _ ((N21.out.below (bel_drewN (Below.refl _ _) 1)).below hb1)).mono ?_; rintro e v2 ⟨o2, rfl, hO2, hb2⟩)
            | (go_at_call 11; refine (HIx2.out _ (HTy.out.below (bel_drewN (Below.refl _ _) 1)) (N21.out.below (bel_drewN (Below.refl _ _) 1))).mono ?_; rintro e v1 ⟨o1, rfl, hO1, hb1⟩)))
        have B1' := B21.out.trans ((bel_of_drew hb1).mono B21.out.size)
        have B2' := B1'.trans (hb2.mono B1'.size)
        have B3' := B2'.trans (hb3.mono B2'.size)
        have B4' := B3'.trans (hb4.mono B3'.size)
        have B5' := B4'.trans (hb5.mono B4'.size)
        have B6' := B5'.trans (hb6.mono B5'.size)
        have B7' := B6'.trans (hb7.mono B6'.size)
        have HBf : Hid (Below w.heap.size w v7) := B7'
        go_wp2
        go_ret
        exact ⟨(by first | rfl | simp), HBf.out⟩
      · have g1 : (0 : Int) < (fs.length : Int) := by omega
        have g2 : 0 < fs.length := by omega
        clear hz
        generalize fs.length = L at *
        have N21d : Hid (NRow w21.drew (.slice ax nx.length cx) nx) := N21.out.below (bel_drewN (Below.refl _ _) 1)
        have NEd : Hid (NRow w21.drew (.slice ao ns.length co) ns) := NE.out.below (bel_drewN (Below.refl _ _) 1)
        have HTyd : Hid (errTy w21.drew) := HTy.out.below (bel_drewN (Below.refl _ _) 1)
        have HFrd : Hid (SRow w21.drew (.slice af L cf) fs) := HFr.out.below (bel_drewN (Below.refl _ _) 1)
        go_region_law
      ((first
            | (go_simp; go_at_call 18; refine (HOk.out _ ((((((HTyd.out.below hb1).below hb2).below hb3).below hb4).below hb5)) ((((((NEd.out.below hb1).below hb2).below hb3).below hb4).below hb5))).mono ?_; rintro e v7 ⟨rfl, hb7⟩; have ce7 := cell_keep ce5 hb7; have cx7 := cell_keep cx5 hb7; try go_wp2)
            | (go_simp; go_at_call 16; refine (HSam.out _ _ _ (((((HFrd.out.below hb1).below hb2).below hb3).below hb4)) hO4.row).mono ?_; rintro e v5 ⟨rfl, hb5⟩; have ce5 := cell_keep ce4 hb5; have cx5 := cell_keep cx4 hb5; try go_wp2)
            | (go_simp; go_at_call 17; refine (HSe.out _ (((NEd.out.below hb1).below hb2).below hb3)).mono ?_; rintro e v4 ⟨o4, rfl, hO4, hb4⟩; have ce4 := cell_keep ce3 hb4; have cx4 := cell_keep cx3 hb4; try go_wp2)
            | (go_simp; go_at_call 16; refine (HSamX.out _ _ _ (hO1.row.below hb2) hO2.row).mono ?_; rintro e v3 ⟨rfl, hb3⟩; have ce3 := cell_keep ce2 hb3; have cx3 := cell_keep cx2 hb3; try go_wp2)
            | (go_simp; go_at_call 17; refine (HSx.out _ (N21d.out.below hb1)).mono ?_; rintro e v2 ⟨o2, rfl, hO2, hb2⟩; have ce2 := cell_keep ce1 hb2; have cx2 := cell_keep cx1 hb2; try go_wp2)
            | (go_simp; go_at_call 11; refine (HIx2.out _ HTyd.out N21d.out).mono ?_; rintro e v1 ⟨o1, rfl, hO1, hb1⟩; have ce1 := cell_keep (W := w21.drew) E21 hb1; have cx1 := cell_keep (W := w21.drew) cb hb1; try go_wp2)))
        all_goals
          have B1' := B21.out.trans ((bel_of_drew hb1).mono B21.out.size)
          have B2' := B1'.trans (hb2.mono B1'.size)
          have B3' := B2'.trans (hb3.mono B2'.size)
          have B4' := B3'.trans (hb4.mono B3'.size)
          have B5' := B4'.trans (hb5.mono B4'.size)
          have B7' := B5'.trans (hb7.mono B5'.size)
          have HBf : Hid (Below w.heap.size w v7) := B7'
          go_wp2
          go_ret
          exact ⟨(by first | rfl | simp), HBf.out⟩
end Go.Proofs.YtokgkjfgknjbbaaDoor
