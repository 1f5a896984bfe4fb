/- The law on drawn expressions, walked: each is what its parts are. -/
import Derived.Test.YtanmhbopalchoaaDoorXSub
import Derived.Test.YtanmhbopalchoaaDoorEnvTop
namespace Go.Proofs.YtanmhbopalchoaaDoor
open Go.RowKit

theorem big_expr (a : Option Addr) (n cap : Nat) (w : World) :
    Calls Tryd.prog 8 #[.slice a n cap] w fun e w' => e = .returned (.bool (decide (1048576 < (n : Int)))) ∧ w' = w := by
  go_enter Tryd.func8, Tryd.ntmps8
  go_wp2
  go_ret
  exact ⟨rfl, rfl⟩
theorem nIn_good {ss : List ByteArray} {ns : List NodeD} (h : GoodN ss ns) (hl : ns.length ≤ 20) : NIn ns := by
  refine ⟨by omega, fun x hx => ?_⟩
  obtain ⟨k, hk, rfl⟩ := List.getElem_of_mem hx
  obtain ⟨hb, hn⟩ := h k hk
  obtain ⟨ho, hkl, hf, hkd⟩ := node_parts hb
  have hk2 : ns[k].kids.length ≤ 2 := by
    unfold kidsN at hkl
    split at hkl
    · omega
    · split at hkl <;> omega
  rw [fieldsB, Bool.and_eq_true] at hf
  have hnum : 0 ≤ ns[k].num ∧ ns[k].num ≤ 99 := by
    have h1 := hf.1
    split at h1
    · rw [inI, decide_eq_true_eq] at h1; exact h1
    · rw [decide_eq_true_eq] at h1; omega
  have hnm : ns[k].name.size ≤ 4 := by
    have h1 := hf.2
    split at h1
    · rw [nameB, Bool.and_eq_true, decide_eq_true_eq] at h1; exact h1.2.2
    · rw [decide_eq_true_eq] at h1; rw [h1]; decide
  exact ⟨by omega, by omega, ⟨by omega, by omega⟩, ⟨by omega, by omega⟩, fun q hq => by have := hkd q hq; exact ⟨by omega, by omega⟩⟩
/-- What the whole is worth, where all its kids are worth something. -/
theorem val_kids {ns : List NodeD} (hn : ∀ k (hk : k < ns.length), nodeB k ns[k] = true) {env : ByteArray → Option Int} {here : Int} {k : Nat} (hk : k < ns.length) {vs : List Int} (hl : vs.length = ns[k].kids.length) (hv : ∀ j (h : j < ns[k].kids.length), valN ns env here ns[k].kids[j].toNat = some (vs.getD j 0)) : valN ns env here k = capB (nodeV env here ns[k] vs) := by
  rw [valN_eq hn env here k hk]
  have e : (ns[k].kids.map fun q => valN ns env here q.toNat) = vs.map some := by
    apply List.ext_getElem
    · simp [hl]
    · intro j h1 h2
      rw [List.length_map] at h1 h2
      rw [List.getElem_map, List.getElem_map, hv j h1, List.getD_eq_getElem?_getD, List.getElem?_eq_getElem h2]
      rfl
  rw [e, show vs.map some = vs.map (fun z => some (id z)) from rfl, allV_map vs (fun z => some (id z)) id (fun _ _ => rfl)]
  simp
theorem keepX {W W' : World} {a b c : Addr} {x y z : Value} (h : W.cell? a = some x ∧ W.cell? b = some y ∧ W.cell? c = some z) (hb : Below W.heap.size W W') :
    W'.cell? a = some x ∧ W'.cell? b = some y ∧ W'.cell? c = some z :=
  ⟨cell_keep h.1 hb, cell_keep h.2.1 hb, cell_keep h.2.2 hb⟩
/-- The same of the last node. -/
def KvP (ns : List NodeD) (env : ByteArray → Option Int) (here : Int) (x : NodeD) : Prop := ∀ vs : List Int, vs.length = x.kids.length → (∀ j (h : j < x.kids.length), valN ns env here x.kids[j].toNat = some (vs.getD j 0)) → evalB ns env here = capB (nodeV env here x vs)

set_option maxHeartbeats 6400000 in
set_option maxRecDepth 100000 in
theorem fnExprs_walk (a : Option Addr) (n cap : Nat) (w : World) (hcode : CodeRow w (.slice a n cap) n) (hg : errTy w) :
    Calls Tryd.prog 3 #[.slice a n cap] w fun e w' => e = .returned (.bool true) ∧ Below w.heap.size w w' := by
  obtain ⟨j0, hj, hj0, hj1, hj2⟩ := info_parts Tryd.infoInt4
  have HC : Hid (CodeRow w (.slice a n cap) n) := hcode
  have HG : Hid (errTy w) := hg
  clear hcode hg
  by_cases hbig : 1048576 < (n : Int)
  · have HBg : Hid (∀ W, _) := fun W => big_expr a n cap W
    go_enter Tryd.func3, Tryd.ntmps3
    go_wp2_with fail
    refine (HBg.out _).mono ?_
    rw [decide_eq_true hbig]
    rintro e wq ⟨rfl, hw⟩
    rw [hw]
    clear hw wq
    go_wp2
    go_ret
    exact ⟨rfl, Below.refl _ _⟩
  have HBg : Hid (∀ W, Calls Tryd.prog 8 #[.slice a n cap] W fun e w' => e = .returned (.bool false) ∧ w' = W) := fun W => by
    have := big_expr a n cap W
    rwa [decide_eq_false hbig] at this
  have hn : n ≤ 1000000000000 := by omega
  go_enter Tryd.func3, Tryd.ntmps3
  go_wp2_with fail
  refine (HBg.out _).mono ?_
  rintro e wq ⟨rfl, hw⟩
  rw [hw]
  clear hw wq HBg
  go_wp2_with fail
  refine (drawExpr_any w (.slice a n cap) n w hn HC.out (Below.refl _ _)).mono ?_
  rintro e w1 ⟨o1, ns, rfl, ho1, hgood, hl1, hl7, hb1⟩
  have HGd : Hid (GoodN names3 ns) := hgood
  have HNd : Hid (∀ k (hk : k < ns.length), nodeB k ns[k] = true) := fun k hk => (hgood k hk).1
  have HEx : Hid (exprB ns = true) := exprB_good hgood hl1 (by omega)
  have HNI : Hid (NIn ns) := nIn_good hgood (by omega)
  obtain ⟨ao, co, rfl⟩ := ho1.row.slice
  have hco := ownN_cap ho1
  have B1 : Hid (Below w.heap.size w (w1.alloc (.cells #[.slice ao ns.length co] 26))) := hb1.alloc hb1.size _
  have bal1 : Below w1.heap.size w1 (w1.alloc (.cells #[.slice ao ns.length co] 26)) := (Below.refl _ _).alloc (Nat.le_refl _) _
  have N1 : Hid (NRow (w1.alloc (.cells #[.slice ao ns.length co] 26)) (.slice ao ns.length co) ns) := ho1.row.below bal1
  have E1 := lit_one w1 (.slice ao ns.length co) 26
  clear hgood ho1 hb1 bal1
  go_wp2_with fail
  generalize (w1.alloc (.cells #[.slice ao ns.length co] 26)) = wb at *
  generalize w1.heap.size = be at *
  refine (drawEnv_any w (.slice a n cap) n _ hn HC.out B1.out).mono ?_
  rintro e w2 ⟨ov, xs, rfl, henv, hov, hb2⟩
  have HEv : Hid (EnvGood xs 4) := henv
  have hxl : xs.length ≤ 4 := henv.2.1
  have V2 : Hid (VRow w2 ov xs) := hov.row
  have N2 : Hid (NRow w2 (.slice ao ns.length co) ns) := N1.out.below hb2
  have B2 : Hid (Below w.heap.size w w2) := B1.out.trans (hb2.mono B1.out.size)
  have E2 := cell_keep E1 hb2
  obtain ⟨av, cv, rfl⟩ := hov.row.slice
  clear hb2 hov henv E1 N1 B1
  go_wp2_with fail
  refine (drawPlaces_any w (.slice a n cap) n _ hn HC.out B2.out).mono ?_
  rintro e w3 ⟨p, rfl, hp, hb3⟩
  obtain ⟨gp, cpp, f, rfl, _, _, hf⟩ := hp.at
  obtain ⟨f0, f1, fc⟩ := hf 0 (by omega)
  have V3 : Hid (VRow w3 (.slice av xs.length cv) xs) := V2.out.below hb3
  have N3 : Hid (NRow w3 (.slice ao ns.length co) ns) := N2.out.below hb3
  have B3 : Hid (Below w.heap.size w w3) := B2.out.trans (hb3.mono B2.out.size)
  have E3 := cell_keep E2 hb3
  have hrem : (f 0).tmod 12 = f 0 % 12 := Int.tmod_eq_emod_of_nonneg f0
  have hh0 : 0 ≤ f 0 % 12 ∧ f 0 % 12 < 12 := by omega
  have hrem2 : IntKind.i64.wrap ((f 0).tmod 12) = f 0 % 12 := by rw [hrem, IntKind.wrap_i64]; omega
  clear hb3 hp hf V2 N2 B2 E2 f0 f1
  generalize f 0 = fz at *
  generalize fz % 12 = here at *
  obtain ⟨z, bz, hval⟩ := optV_form (evalB ns (getB xs) here)
  have HVal : Hid (optV (evalB ns (getB xs) here) = .tuple #[.int .i64 z, .bool bz]) := hval
  have HI : Hid (∀ W : World, Below w.heap.size w W → NRow W (.slice ao ns.length co) ns → VRow W (.slice av xs.length cv) xs → Calls Tryd.prog 12 #[.agg #[.slice ao ns.length co], .slice av xs.length cv, .int .i64 here] W fun e w' => e = .returned (.tuple #[.int .i64 z, .bool bz]) ∧ Below W.heap.size W w') := fun W hb hv hu => by
    rw [← hval]; exact implEvalExpr_any _ _ ns xs here W (HG.out.below hb) (by omega) hv hu
  have HSp : Hid (∀ W : World, NRow W (.slice ao ns.length co) ns → VRow W (.slice av xs.length cv) xs → Calls Tryd.prog 13 #[.agg #[.slice ao ns.length co], .slice av xs.length cv, .int .i64 here] W fun e w' => e = .returned (.tuple #[.int .i64 z, .bool bz]) ∧ Below W.heap.size W w') := fun W hv hu => by
    rw [← hval]; exact specEvalExpr_any _ _ ns xs here W HNI.out (by omega) hv hu
  clear hval
  go_wp2_with fail
  refine (HI.out _ B3.out N3.out V3.out).mono ?_
  rintro e w4 ⟨rfl, hb4⟩
  have V4 : Hid (VRow w4 (.slice av xs.length cv) xs) := V3.out.below hb4
  have N4 : Hid (NRow w4 (.slice ao ns.length co) ns) := N3.out.below hb4
  have B4 : Hid (Below w.heap.size w w4) := B3.out.trans (hb4.mono B3.out.size)
  have E4 := cell_keep E3 hb4
  clear hb4 V3 N3 B3 E3 fc
  go_wp2_with fail
  refine (HSp.out _ N4.out V4.out).mono ?_
  rintro e w5 ⟨rfl, hb5⟩
  have V5 : Hid (VRow w5 (.slice av xs.length cv) xs) := V4.out.below hb5
  have N5 : Hid (NRow w5 (.slice ao ns.length co) ns) := N4.out.below hb5
  have B5 : Hid (Below w.heap.size w w5) := B4.out.trans (hb5.mono B4.out.size)
  have E5 := cell_keep E4 hb5
  clear hb5 V4 N4 B4 E4 HI HSp
  obtain ⟨bn, on, kv, rfl, n0, n1, n2, n3, hK⟩ := N5.out.at (k := ns.length - 1) (by omega)
  obtain ⟨ak, ck, rfl⟩ := hK.slice
  have HK : Hid (IRow w5 (.slice ak ns[ns.length - 1].kids.length ck) ns[ns.length - 1].kids) := hK
  have hb := HNd.out (ns.length - 1) (by omega)
  have HNb : Hid (nodeB (ns.length - 1) ns[ns.length - 1] = true) := hb
  have HLast : Hid (evalB ns (getB xs) here = valN ns (getB xs) here (ns.length - 1)) := evalB_val HEx.out (getB xs) here
  have HKv : Hid (KvP ns (getB xs) here ns[ns.length - 1]) := fun vs h1 h2 => by rw [HLast.out]; exact val_kids HNd.out (by omega) h1 h2
  have HKn : Hid (∀ q ∈ ns[ns.length - 1].kids, valN ns (getB xs) here q.toNat = none → evalB ns (getB xs) here = none) := fun q hq hv => by
    rw [HLast.out, valN_eq HNd.out (getB xs) here _ (by omega), allV_none]
    exact List.mem_map.2 ⟨q, hq, hv⟩
  have HSm : Hid (∀ i z, i < ns.length → valN ns (getB xs) here i = some z → small z) := fun i z hi hv => valN_small HNd.out hi hv
  have HKd : Hid (∀ q ∈ ns[ns.length - 1].kids, 0 ≤ q ∧ q < ((ns.length - 1 : Nat) : Int)) := (node_parts hb).2.2.2
  have i1 : IntKind.i64.wrap ((ns.length : Int) - 1) = ((ns.length - 1 : Nat) : Int) := by rw [IntKind.wrap_i64]; omega
  have i2 : ((ns.length - 1 : Nat) : Int) < (ns.length : Int) := by omega
  have HIO : Hid (∀ W : World, Below w.heap.size w W → NRow W (.slice (some ⟨bn, on, none⟩) ns.length co) ns → Calls Tryd.prog 14 #[.agg #[.slice (some ⟨bn, on, none⟩) ns.length co]] W fun e w' => e = .returned (.bool true) ∧ Below W.heap.size W w') := fun W hb hv => by
    have := implExprOk_any (.slice (some ⟨bn, on, none⟩) ns.length co) ns W (HG.out.below hb) hv
    rwa [HEx.out] at this
  clear hb hK
  obtain ⟨X, hX⟩ : ∃ X, ns[ns.length - 1] = X := ⟨_, rfl⟩
  rw [hX] at n0 n1 n2 n3 HK HNb HKv HKn HKd
  clear hX
  obtain ⟨op, num, name, kids⟩ := X
  have bal5 : Below w5.heap.size w5 (w5.alloc (.cells #[.int .i64 op, .int .i64 num, .string name, .slice ak kids.length ck] 35)) := (Below.refl _ _).alloc (Nat.le_refl _) _
  have B6 : Hid (Below w.heap.size w (w5.alloc (.cells #[.int .i64 op, .int .i64 num, .string name, .slice ak kids.length ck] 35))) := B5.out.trans (bal5.mono B5.out.size)
  have V6 : Hid (VRow (w5.alloc (.cells #[.int .i64 op, .int .i64 num, .string name, .slice ak kids.length ck] 35)) (.slice av xs.length cv) xs) := V5.out.below bal5
  have N6 : Hid (NRow (w5.alloc (.cells #[.int .i64 op, .int .i64 num, .string name, .slice ak kids.length ck] 35)) (.slice (some ⟨bn, on, none⟩) ns.length co) ns) := N5.out.below bal5
  have K6 : Hid (IRow (w5.alloc (.cells #[.int .i64 op, .int .i64 num, .string name, .slice ak kids.length ck] 35)) (.slice ak kids.length ck) kids) := HK.out.below bal5
  have E6 := cell_keep E5 bal5
  have X6 := lit_four w5 (.int .i64 op) (.int .i64 num) (.string name) (.slice ak kids.length ck) 35
  clear bal5 V5 N5 B5 HK
  go_wp2_with fail
  generalize (w5.alloc (.cells #[.int .i64 op, .int .i64 num, .string name, .slice ak kids.length ck] 35)) = w6 at *
  generalize w5.heap.size = bx at *
  refine (HIO.out _ B6.out N6.out).mono ?_
  rintro e w7 ⟨rfl, hb7⟩
  have V7 : Hid (VRow w7 (.slice av xs.length cv) xs) := V6.out.below hb7
  have N7 : Hid (NRow w7 (.slice (some ⟨bn, on, none⟩) ns.length co) ns) := N6.out.below hb7
  have K7 : Hid (IRow w7 (.slice ak kids.length ck) kids) := K6.out.below hb7
  have B7 : Hid (Below w.heap.size w w7) := B6.out.trans (hb7.mono B6.out.size)
  have E7 : Hid (w7.cell? ⟨be, 0, none⟩ = some (.slice (some ⟨bn, on, none⟩) ns.length co)) := cell_keep E6 hb7
  have X7 : Hid (w7.cell? ⟨bx, 0, none⟩ = some (.int .i64 op) ∧ w7.cell? ⟨bx, 1, none⟩ = some (.int .i64 num) ∧ w7.cell? ⟨bx, 2, none⟩ = some (.string name) ∧ w7.cell? ⟨bx, 3, none⟩ = some (.slice ak kids.length ck)) := ⟨cell_keep X6.1 hb7, cell_keep X6.2.1 hb7, cell_keep X6.2.2.1 hb7, cell_keep X6.2.2.2 hb7⟩
  clear hb7 V6 N6 K6 B6 E6 X6 E5 n0 n1 n2 n3 HIO
  have O8 : Hid (OwnZ w7.heap.size (.slice (some ⟨w7.heap.size, 0, none⟩) 0 0) [] (w7.alloc (.cells #[] 3))) := World.ownsRow_made (base := w7.heap.size) w7 #[] 0 (e := 3) (size := 1) (Nat.le_refl _) (by decide) rfl
  have HPt : Hid (∀ (q : Nat) (W : World), q < ns.length → Below w.heap.size w W → NRow W (.slice (some ⟨bn, on, none⟩) ns.length co) ns → VRow W (.slice av xs.length cv) xs → Calls Tryd.prog 12 #[.agg #[.slice (some ⟨bn, on, none⟩) (q + 1) co], .slice av xs.length cv, .int .i64 here] W fun e w' => e = .returned (optV (valN ns (getB xs) here q)) ∧ Below W.heap.size W w') := fun q W hq hb hv hu => by
    rw [← eval_take HGd.out (by omega) (getB xs) here hq]
    exact implEvalExpr_any _ _ _ xs here W (HG.out.below hb) (by omega) (hv.take (by omega)) hu
  have hkl : kids.length ≤ 2 := by
    have := (node_parts HNb.out).2.1
    unfold kidsN at this
    simp only at this
    split at this
    · omega
    · split at this <;> omega
  go_wp2
  go_loopw [11, 12] (fun nv iv wr => ∃ (i : Nat) (vs : List Int), iv = .int .i64 i ∧ i ≤ kids.length ∧ vs.length = i ∧ (∀ j (h : j < kids.length), j < i → valN ns (getB xs) here kids[j].toNat = some (vs.getD j 0)) ∧ OwnZ w7.heap.size nv vs wr ∧ Below w7.heap.size w7 wr) (fun _ iv _ => kids.length - (intOf iv).toNat)
  case atStart => exact ⟨0, [], rfl, Nat.zero_le _, rfl, fun _ _ h => absurd h (Nat.not_lt_zero _), O8.out, (Below.refl _ _).alloc (Nat.le_refl _) _⟩
  case round =>
    obtain ⟨i, vs, rfl, hik, hvl, hvs, hown, hbw⟩ := hrel
    have HVs : Hid (∀ j (h : j < kids.length), j < i → valN ns (getB xs) here kids[j].toNat = some (vs.getD j 0)) := hvs
    have HVl : Hid (vs.length = i) := hvl
    have HO : Hid (OwnZ w7.heap.size u11 vs wr) := hown
    have HBr : Hid (Below w7.heap.size w7 wr) := hbw
    have HB : Hid (Below w.heap.size w wr) := B7.out.trans (hbw.mono B7.out.size)
    have hE := cell_keep E7.out hbw
    have x0 := cell_keep X7.out.1 hbw
    have x1 := cell_keep X7.out.2.1 hbw
    have x2 := cell_keep X7.out.2.2.1 hbw
    have x3 := cell_keep X7.out.2.2.2 hbw
    have HVr : Hid (VRow wr (.slice av xs.length cv) xs) := V7.out.below hbw
    clear hvs hown hbw hvl
    by_cases hlt : i < kids.length
    · obtain ⟨bk, okk, rfl, hck⟩ := (K7.out.below HBr.out).at hlt
      have hkq := HKd.out _ (List.getElem_mem hlt)
      have HKm : Hid (kids[i] ∈ kids) := List.getElem_mem hlt
      obtain ⟨q, hq⟩ : ∃ q : Nat, kids[i] = (q : Int) := ⟨kids[i].toNat, by omega⟩
      have HVq : Hid (kids[i].toNat = q) := by rw [Hid, hq]; rfl
      have HKq : Hid (valN ns (getB xs) here q = none → evalB ns (getB xs) here = none) := fun h => HKn.out kids[i] HKm.out (by rw [HVq.out]; exact h)
      rw [hq] at hck hkq
      clear hq HKm
      have hqn : q < ns.length := by omega
      have i4 : (i : Int) < (kids.length : Int) := by omega
      have i5 : IntKind.i64.wrap ((q : Int) + 1) = (q : Int) + 1 := by rw [IntKind.wrap_i64]; omega
      have i6 : (q : Int) + 1 ≤ (co : Int) := by omega
      have i7 : (0 : Int) ≤ (q : Int) + 1 := by omega
      have hvl2 : vs.length ≤ 2 := by rw [HVl.out]; omega
      go_wp2
      go_region_held3 (fun W => W.cell? ⟨be, 0, none⟩ = some (.slice (some ⟨bn, on, none⟩) ns.length co) ∧ W.cell? ⟨bx, 3, none⟩ = some (.slice (some ⟨bk, okk, none⟩) kids.length ck) ∧ W.cell? ⟨bk, okk + i, none⟩ = some (.int .i64 (q : Int)))
        ((first | go_keep | exact keepX (by assumption) ((Below.refl _ _).alloc (Nat.le_refl _) _)))
        (fail)
      all_goals
        have bal8 : Below wr.heap.size wr (wr.alloc (.cells #[.slice (some ⟨bn, on, none⟩) (q + 1) co] 26)).drew := bel_drewN ((Below.refl _ _).alloc (Nat.le_refl _) _) 1
        have HB8 : Hid (Below w.heap.size w (wr.alloc (.cells #[.slice (some ⟨bn, on, none⟩) (q + 1) co] 26)).drew) := HB.out.trans (bal8.mono HB.out.size)
        have HBr8 : Hid (Below w7.heap.size w7 (wr.alloc (.cells #[.slice (some ⟨bn, on, none⟩) (q + 1) co] 26)).drew) := HBr.out.trans (bal8.mono HBr.out.size)
        have HN8 : Hid (NRow (wr.alloc (.cells #[.slice (some ⟨bn, on, none⟩) (q + 1) co] 26)).drew (.slice (some ⟨bn, on, none⟩) ns.length co) ns) := N7.out.below HBr8.out
        have HV8 : Hid (VRow (wr.alloc (.cells #[.slice (some ⟨bn, on, none⟩) (q + 1) co] 26)).drew (.slice av xs.length cv) xs) := HVr.out.below bal8
        have HO8 : Hid (OwnZ w7.heap.size u11 vs (wr.alloc (.cells #[.slice (some ⟨bn, on, none⟩) (q + 1) co] 26)).drew) := HO.out.below bal8
        have hq8 : ((wr.alloc (.cells #[.slice (some ⟨bn, on, none⟩) (q + 1) co] 26)).drew).cell? ⟨wr.heap.size, 0, none⟩ = some (.slice (some ⟨bn, on, none⟩) (q + 1) co) := lit_one wr (.slice (some ⟨bn, on, none⟩) (q + 1) co) 26
        have HE8 : Hid (_) := HPt.out q (wr.alloc (.cells #[.slice (some ⟨bn, on, none⟩) (q + 1) co] 26)).drew hqn HB8.out HN8.out HV8.out
        clear bal8 HN8 HV8
        cases hvq : valN ns (getB xs) here q with
        | none =>
          have HNn := HKq.out hvq
          have hvv := HVal.out
          rw [HNn] at hvv
          obtain ⟨rfl, rfl⟩ := optV_none hvv
          rw [hvq, show optV none = .tuple #[.int .i64 0, .bool false] from rfl] at HE8
          clear hvq hvv HNn
          go_wp2_with fail
          refine Calls.mono HE8.out ?_
          rintro e w9 ⟨rfl, hb9⟩
          have B9 : Hid (Below w.heap.size w w9) := HB8.out.trans (hb9.mono HB8.out.size)
          clear hb9
          go_wp2
          go_ret
          exact ⟨rfl, B9.out⟩
        | some y =>
          rw [hvq, show optV (some y) = .tuple #[.int .i64 y, .bool true] from rfl] at HE8
          have HNv : Hid (∀ j (h : j < kids.length), j < i + 1 → valN ns (getB xs) here kids[j].toNat = some ((vs ++ [y]).getD j 0)) := fun j hj hji => by
            by_cases e : j < i
            · rw [getD_app_lt (by rw [HVl.out]; exact e)]; exact HVs.out j hj e
            · obtain rfl : j = i := by omega
              rw [HVq.out, hvq, getD_last _ _ HVl.out.symm]
          clear hvq
          go_wp2_with fail
          refine Calls.mono HE8.out ?_
          rintro e w9 ⟨rfl, hb9⟩
          have HO9 : Hid (OwnZ w7.heap.size u11 vs w9) := HO8.out.below hb9
          have HB9 : Hid (Below w7.heap.size w7 w9) := HBr8.out.trans (hb9.mono HBr8.out.size)
          clear hb9
          go_wp2_with (at_builtin; refine wpList_append_own _ rfl _ _ 30 rfl w7.heap.size 3 j0 _ 1 8 Tryd.underlying30 hj hj0 hj1 hj2 rfl (by decide) _ _ _ rfl (World.ownsRow.alloc HO9.out _) ⟨_, 0, none⟩ 1 1 [.int .i64 y] rfl rfl (cell_one_new _ _ _) (one_cell .i64 _) (by unfold maxLen; omega) (by omega) (by have h8 := HB9.out.size; simp; omega) ?_)
          intro v' w10 hown10 hgrow _
          have R := ownZ_snoc hown10 HO9.out hgrow rfl HB9.out
          clear hown10 hgrow
          go_wp2
          go_roundw
          case rel => exact ⟨i + 1, vs ++ [y], by go_num, by omega, by rw [List.length_append, HVl.out]; rfl, HNv.out, R.1, R.2⟩
          case measure => simp [intOf]; omega
    · obtain rfl : i = kids.length := by omega
      have HEv2 := HKv.out vs HVl.out (fun j hj => HVs.out j hj hj)
      have HE : Hid (evalB ns (getB xs) here = capB (nodeV (getB xs) here ⟨op, num, name, kids⟩ vs)) := HEv2
      have i4 : ¬ (kids.length : Int) < (kids.length : Int) := by omega
      have HSv : Hid (∀ j, j < kids.length → small (vs.getD j 0)) := fun j hj => HSm.out kids[j].toNat _ (by have := HKd.out _ (List.getElem_mem hj); omega) (HVs.out j hj hj)
      clear HEv2 HKv HKn HVs HKd
      have hops := (node_parts HNb.out).1
      by_cases o1 : op = 1
      · subst o1
        have hnf := num_fine HNb.out rfl
        simp only at hnf
        have HX : Hid (capB (nodeV (getB xs) here ⟨1, num, name, kids⟩ vs) = some num) := by rw [Hid, nodeV, if_pos rfl]; exact capB_yes (n := num) (by rw [inI]; exact decide_eq_true (by omega))
        have hvv := HVal.out
        rw [HE.out, HX.out] at hvv
        obtain ⟨rfl, rfl⟩ := optV_yes hvv
        clear hvv HVal HE
        go_wp2
        go_ret
        exact ⟨rfl, HB.out⟩
      by_cases o3 : op = 3
      · subst o3
        have HX : Hid (capB (nodeV (getB xs) here ⟨3, num, name, kids⟩ vs) = some here) := by rw [Hid, nodeV, if_neg (show ¬ (3 : Int) = 1 by decide), if_neg (show ¬ (3 : Int) = 2 by decide), if_pos rfl]; exact capB_yes (by rw [inI]; exact decide_eq_true (by omega))
        clear o1
        have hvv := HVal.out
        rw [HE.out, HX.out] at hvv
        obtain ⟨rfl, rfl⟩ := optV_yes hvv
        clear hvv HVal HE
        go_wp2
        go_ret
        exact ⟨rfl, HB.out⟩
      by_cases o2 : op = 2
      · subst o2
        clear o1 o3
        have HR : Hid (nodeV (getB xs) here ⟨2, num, name, kids⟩ vs = getB xs name) := by rw [Hid, nodeV, if_neg (show ¬ (2 : Int) = 1 by decide), if_pos rfl]
        have HGt : Hid (_) := specEnvGet_any (.slice av xs.length cv) xs name wr (by omega) HVr.out
        cases hgv : getB xs name with
        | none =>
          have HX : Hid (capB (nodeV (getB xs) here ⟨2, num, name, kids⟩ vs) = none) := by rw [Hid, HR.out, hgv]; rfl
          have hgg : getVal xs name = .tuple #[.int .i64 0, .bool false] := by unfold getVal; rw [hgv]
          rw [hgg] at HGt
          clear hgg hgv HR
          have hvv := HVal.out
          rw [HE.out, HX.out] at hvv
          obtain ⟨rfl, rfl⟩ := optV_none hvv
          clear hvv HVal HE
          go_wp2_with fail
          refine Calls.mono HGt.out ?_
          rintro e wq ⟨rfl, hw⟩
          rw [hw]
          clear hw wq
          go_wp2
          go_ret
          exact ⟨rfl, HB.out⟩
        | some y =>
          have HX : Hid (capB (nodeV (getB xs) here ⟨2, num, name, kids⟩ vs) = some y) := by rw [Hid, HR.out, hgv]; exact capB_yes (get_small HEv.out hgv)
          have hgg : getVal xs name = .tuple #[.int .i64 y, .bool true] := by unfold getVal; rw [hgv]
          rw [hgg] at HGt
          clear hgg hgv HR
          have hvv := HVal.out
          rw [HE.out, HX.out] at hvv
          obtain ⟨rfl, rfl⟩ := optV_yes hvv
          clear hvv HVal HE
          go_wp2_with fail
          refine Calls.mono HGt.out ?_
          rintro e wq ⟨rfl, hw⟩
          rw [hw]
          clear hw wq
          go_wp2
          go_ret
          exact ⟨rfl, HB.out⟩
      by_cases o11 : op = 11
      · subst o11
        clear o1 o2 o3
        obtain ⟨q, hks, _⟩ := kids_one HNb.out rfl
        simp only at hks
        subst hks
        obtain ⟨y, rfl⟩ : ∃ y, vs = [y] := List.length_eq_one_iff.1 HVl.out
        obtain ⟨an, cn, rfl⟩ := HO.out.row.slice
        obtain ⟨gn, on2, rfl, hy0⟩ := HO.out.row.at (k := 0) (by simp)
        have hy1 : wr.cell? ⟨gn, on2, none⟩ = some (.int .i64 y) := hy0
        have HR : Hid (nodeV (getB xs) here ⟨11, num, name, [(q : Int)]⟩ [y] = some (flagI (decide (y = 0)))) := by rw [Hid, nodeV, if_neg (show ¬ (11 : Int) = 1 by decide), if_neg (show ¬ (11 : Int) = 2 by decide), if_neg (show ¬ (11 : Int) = 3 by decide), if_pos rfl]; rfl
        by_cases hy : y = 0
        · have HX : Hid (capB (nodeV (getB xs) here ⟨11, num, name, [(q : Int)]⟩ [y]) = some 1) := by rw [Hid, HR.out, decide_eq_true hy]; rfl
          have hyb : (y == 0) = true := by simpa using hy
          clear hy0 HR
          have hvv := HVal.out
          rw [HE.out, HX.out] at hvv
          obtain ⟨rfl, rfl⟩ := optV_yes hvv
          clear hvv HVal HE
          clear hy
          go_wp2
          go_ret
          exact ⟨rfl, HB.out⟩
        · have HX : Hid (capB (nodeV (getB xs) here ⟨11, num, name, [(q : Int)]⟩ [y]) = some 0) := by rw [Hid, HR.out, decide_eq_false hy]; rfl
          have hyb : (y == 0) = false := by simpa using hy
          clear hy0 HR
          have hvv := HVal.out
          rw [HE.out, HX.out] at hvv
          obtain ⟨rfl, rfl⟩ := optV_yes hvv
          clear hvv HVal HE
          clear hy
          go_wp2
          go_ret
          exact ⟨rfl, HB.out⟩
      obtain ⟨q, r, hks, _, _, ho4⟩ := kids_two HNb.out o1 o2 o3 o11
      simp only at hks ho4
      subst hks
      obtain ⟨y, y', rfl⟩ : ∃ y y', vs = [y, y'] := by
        match vs, HVl.out with
        | [p, q], _ => exact ⟨p, q, rfl⟩
      obtain ⟨an, cn, rfl⟩ := HO.out.row.slice
      obtain ⟨gn, on2, rfl, hy0⟩ := HO.out.row.at (k := 0) (by simp)
      obtain ⟨gn', on2', e, hy0'⟩ := HO.out.row.at (k := 1) (by simp)
      cases e
      have hy1 : wr.cell? ⟨gn, on2, none⟩ = some (.int .i64 y) := hy0
      have hy2 : wr.cell? ⟨gn, on2 + 1, none⟩ = some (.int .i64 y') := hy0'
      have sy : small y := HSv.out 0 (by simp)
      have sy' : small y' := HSv.out 1 (by simp)
      have HR : Hid (nodeV (getB xs) here ⟨op, num, name, [(q : Int), (r : Int)]⟩ [y, y'] = twoB op y y') := by rw [Hid, nodeV, if_neg o1, if_neg o2, if_neg o3, if_neg o11]; rfl
      have hmul := mul_small sy sy'
      have hdiv := tdiv_small (b := y') sy
      have hw1 : IntKind.i64.wrap (y * y') = y * y' := by rw [IntKind.wrap_i64]; omega
      have hw2 : IntKind.i64.wrap (y.tdiv y') = y.tdiv y' := by rw [IntKind.wrap_i64]; omega
      have hw3 : IntKind.i64.wrap (y + y') = y + y' := by rw [IntKind.wrap_i64]; have h1 := sy.1; have h2 := sy.2; have h3 := sy'.1; have h4 := sy'.2; omega
      have hw4 : IntKind.i64.wrap (y - y') = y - y' := by rw [IntKind.wrap_i64]; have h1 := sy.1; have h2 := sy.2; have h3 := sy'.1; have h4 := sy'.2; omega
      have HDiv : Hid (inI (y.tdiv y') (-9999) 9999 = true) := by rw [Hid, inI]; exact decide_eq_true hdiv
      clear hy0 hy0' sy sy' hmul hdiv HSv
      by_cases o4 : op = 4
      · subst o4
        cases hin : inI (y + y') (-9999) 9999 with
        | false =>
          have HX : Hid (capB (nodeV (getB xs) here ⟨4, num, name, [(q : Int), (r : Int)]⟩ [y, y']) = none) := by rw [Hid, HR.out]; exact capB_no hin
          have hvv := HVal.out
          rw [HE.out, HX.out] at hvv
          obtain ⟨rfl, rfl⟩ := optV_none hvv
          clear hvv HVal HE
          clear hin HR o1 o2 o3 o11
          go_wp2
          go_quiet (fail)
          go_wp2
          go_ret
          exact ⟨rfl, bel_drewN HB.out _⟩
        | true =>
          have HX : Hid (capB (nodeV (getB xs) here ⟨4, num, name, [(q : Int), (r : Int)]⟩ [y, y']) = some (y + y')) := by rw [Hid, HR.out]; exact capB_yes hin
          have hvv := HVal.out
          rw [HE.out, HX.out] at hvv
          obtain ⟨rfl, rfl⟩ := optV_yes hvv
          clear hvv HVal HE
          clear hin HR o1 o2 o3 o11
          go_wp2
          go_quiet (fail)
          go_wp2
          go_ret
          exact ⟨rfl, bel_drewN HB.out _⟩
      by_cases o5 : op = 5
      · subst o5
        cases hin : inI (y - y') (-9999) 9999 with
        | false =>
          have HX : Hid (capB (nodeV (getB xs) here ⟨5, num, name, [(q : Int), (r : Int)]⟩ [y, y']) = none) := by rw [Hid, HR.out]; exact capB_no hin
          have hvv := HVal.out
          rw [HE.out, HX.out] at hvv
          obtain ⟨rfl, rfl⟩ := optV_none hvv
          clear hvv HVal HE
          clear hin HR o1 o2 o3 o11
          go_wp2
          go_quiet (fail)
          go_wp2
          go_ret
          exact ⟨rfl, bel_drewN HB.out _⟩
        | true =>
          have HX : Hid (capB (nodeV (getB xs) here ⟨5, num, name, [(q : Int), (r : Int)]⟩ [y, y']) = some (y - y')) := by rw [Hid, HR.out]; exact capB_yes hin
          have hvv := HVal.out
          rw [HE.out, HX.out] at hvv
          obtain ⟨rfl, rfl⟩ := optV_yes hvv
          clear hvv HVal HE
          clear hin HR o1 o2 o3 o11
          go_wp2
          go_quiet (fail)
          go_wp2
          go_ret
          exact ⟨rfl, bel_drewN HB.out _⟩
      by_cases o6 : op = 6
      · subst o6
        cases hin : inI (y * y') (-9999) 9999 with
        | false =>
          have HX : Hid (capB (nodeV (getB xs) here ⟨6, num, name, [(q : Int), (r : Int)]⟩ [y, y']) = none) := by rw [Hid, HR.out]; exact capB_no hin
          have hvv := HVal.out
          rw [HE.out, HX.out] at hvv
          obtain ⟨rfl, rfl⟩ := optV_none hvv
          clear hvv HVal HE
          clear hin HR o1 o2 o3 o11
          go_wp2
          go_quiet (fail)
          go_wp2
          go_ret
          exact ⟨rfl, bel_drewN HB.out _⟩
        | true =>
          have HX : Hid (capB (nodeV (getB xs) here ⟨6, num, name, [(q : Int), (r : Int)]⟩ [y, y']) = some (y * y')) := by rw [Hid, HR.out]; exact capB_yes hin
          have hvv := HVal.out
          rw [HE.out, HX.out] at hvv
          obtain ⟨rfl, rfl⟩ := optV_yes hvv
          clear hvv HVal HE
          clear hin HR o1 o2 o3 o11
          go_wp2
          go_quiet (fail)
          go_wp2
          go_ret
          exact ⟨rfl, bel_drewN HB.out _⟩
      by_cases o7 : op = 7
      · subst o7
        by_cases hz : y' = 0
        · have HX : Hid (capB (nodeV (getB xs) here ⟨7, num, name, [(q : Int), (r : Int)]⟩ [y, y']) = none) := by rw [Hid, HR.out]; simp [twoB, hz, capB]
          have hzb : (y' != 0) = false := by simpa using hz
          have hvv := HVal.out
          rw [HE.out, HX.out] at hvv
          obtain ⟨rfl, rfl⟩ := optV_none hvv
          clear hvv HVal HE
          clear HR o1 o2 o3 o11 hz
          go_wp2
          go_quiet (fail)
          go_wp2
          go_ret
          exact ⟨rfl, bel_drewN HB.out _⟩
        · have HX : Hid (capB (nodeV (getB xs) here ⟨7, num, name, [(q : Int), (r : Int)]⟩ [y, y']) = some (y.tdiv y')) := by
            rw [Hid, HR.out, show twoB 7 y y' = some (y.tdiv y') by simp [twoB, hz]]
            exact capB_yes HDiv.out
          have hzb : (y' != 0) = true := by simpa using hz
          have hvv := HVal.out
          rw [HE.out, HX.out] at hvv
          obtain ⟨rfl, rfl⟩ := optV_yes hvv
          clear hvv HVal HE
          clear HR o1 o2 o3 o11
          go_wp2
          go_quiet (fail)
          go_wp2
          go_ret
          exact ⟨rfl, bel_drewN HB.out _⟩
      have HFl : Hid (∃ c : Bool, twoB op y y' = some (flagI c)) := by
        rw [Hid, twoB, if_neg o4, if_neg o5, if_neg o6, if_neg o7]
        by_cases o8 : op = 8
        · rw [if_pos o8]; exact ⟨_, rfl⟩
        · rw [if_neg o8]
          by_cases o9 : op = 9
          · rw [if_pos o9]; exact ⟨_, rfl⟩
          · rw [if_neg o9]; exact ⟨_, rfl⟩
      obtain ⟨c, hc⟩ := HFl.out
      have m1 : (op == 1) = false := by simpa using o1
      have m2 : (op == 2) = false := by simpa using o2
      have m3 : (op == 3) = false := by simpa using o3
      have m4 : (op == 4) = false := by simpa using o4
      have m5 : (op == 5) = false := by simpa using o5
      have m6 : (op == 6) = false := by simpa using o6
      have m7 : (op == 7) = false := by simpa using o7
      have m11 : (op == 11) = false := by simpa using o11
      cases c with
      | true =>
        have HX : Hid (capB (nodeV (getB xs) here ⟨op, num, name, [(q : Int), (r : Int)]⟩ [y, y']) = some 1) := by rw [Hid, HR.out, hc]; rfl
        clear hc HFl HR
        have hvv := HVal.out
        rw [HE.out, HX.out] at hvv
        obtain ⟨rfl, rfl⟩ := optV_yes hvv
        clear hvv HVal HE
        go_wp2
        go_ret
        exact ⟨rfl, HB.out⟩
      | false =>
        have HX : Hid (capB (nodeV (getB xs) here ⟨op, num, name, [(q : Int), (r : Int)]⟩ [y, y']) = some 0) := by rw [Hid, HR.out, hc]; rfl
        clear hc HFl HR
        have hvv := HVal.out
        rw [HE.out, HX.out] at hvv
        obtain ⟨rfl, rfl⟩ := optV_yes hvv
        clear hvv HVal HE
        go_wp2
        go_ret
        exact ⟨rfl, HB.out⟩
end Go.Proofs.YtanmhbopalchoaaDoor
