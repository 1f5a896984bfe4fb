/- The law on texts of drawn expressions, walked. -/
import Derived.Test.YtbpfapjchmignaaDoorE16S
import Derived.Test.YtbpfapjchmignaaDoorE16I
import Derived.Test.YtbpfapjchmignaaDoorE16Q
import Derived.Test.YtbpfapjchmignaaDoorXAny
namespace Go.Proofs.YtbpfapjchmignaaDoor
open Go.RowKit
set_option linter.unusedVariables false

theorem big_e16 (a : Option Addr) (n cap : Nat) (w : World) :
    Calls Tryd.prog 4 #[.slice a n cap] w fun e w' => e = .returned (.bool (decide (1048576 < (n : Int)))) ∧ w' = w := by
  go_enter Tryd.func4, Tryd.ntmps4
  go_wp2
  go_ret
  exact ⟨rfl, rfl⟩

set_option maxHeartbeats 1600000 in
set_option maxRecDepth 100000 in
theorem drawExprText_any (W : World) (v : Value) (n : Nat) (w : World) (hn : n ≤ 1000000000000) (hcode : CodeRow W v n) (hb : Below W.heap.size W w) :
    Calls Tryd.prog 5 #[v] w fun e w' => ∃ o ns, e = .returned (.agg #[o]) ∧ NRow w' o ns ∧ NIn ns ∧ Below w.heap.size w w' := by
  obtain ⟨H, hH⟩ : ∃ H, w.heap.size = H := ⟨_, rfl⟩
  have HC : Hid (CodeRow W v n) := hcode
  have B0 : Hid (Below w.heap.size w (w.alloc (.cells #[.slice none 0 0] 26))) := (Below.refl _ _).alloc (Nat.le_refl _) _
  have HN : Hid (_) := new_any W v n (w.alloc (.cells #[.slice none 0 0] 26)) hn hcode (hb.trans (B0.out.mono hb.size))
  have R0 : Hid (EBox H (.slice none 0 0) (w.alloc (.cells #[.slice none 0 0] 26))) := by have := EBox.made w (.slice none 0 0); rwa [hH] at this
  have hs0 : (w.alloc (.cells #[.slice none 0 0] 26)).heap.size = H + 1 := by simp [hH]
  clear hcode hb
  go_enter Tryd.func5, Tryd.ntmps5
  go_wp2_with fail
  refine Calls.mono HN.out ?_
  rintro e w1 ⟨g, rfl, hc1, hb1, hg⟩
  have R1 : Hid (EBox H (.slice none 0 0) w1) := R0.out.same (hb1.block H (by rw [hs0]; omega))
  have hs1 := hb1.size
  rw [hs0] at hs1 hg
  have B1 : Hid (Below w.heap.size w w1) := B0.out.trans (hb1.mono B0.out.size)
  have HX : Hid (_) := l04Any_any W v n g w1 hn HC.out hc1
  clear hc1 hb1 HN B0 R0
  go_wp2_with fail
  refine Calls.mono HX.out ?_
  rintro e w2 ⟨o, ns, rfl, ho, hin, hw2⟩
  have R2 : Hid (EBox H (.slice none 0 0) w2) := R1.out.same (hw2.2.block H R1.out.lt (fun e => by have := Option.some.inj e; omega))
  have q2 := R2.out.cell
  have f2 := R2.out.frozen
  obtain ⟨ao, co, rfl⟩ := ho.row.slice
  have HB : Hid (Below w.heap.size w (w2.setCell ⟨H, 0, none⟩ (.slice ao ns.length co))) := (B1.out.trans (went_bel hw2 B1.out.size (by omega))).setCell (by show w.heap.size ≤ H; omega) _
  have HO : Hid (NRow (w2.setCell ⟨H, 0, none⟩ (.slice ao ns.length co)) (.slice ao ns.length co) ns) := (ho.set (by omega) _).row
  have HI : Hid (NIn ns) := hin
  have r5 := (R2.out.set (.slice ao ns.length co)).cell
  clear ho hin hw2 HX R1 R2
  go_wp2
  generalize w2.setCell ⟨H, 0, none⟩ (.slice ao ns.length co) = w5 at *
  (try simp only [Exit.inBlock, Exit.then])
  refine bodyPost_ret (by simp [results, Tryd.results5, go_sem, r5]; try rfl) rfl ?_
  exact ⟨_, _, rfl, HO.out, HI.out, HB.out⟩

theorem ownN_cap16 {B : Nat} {a : Option Addr} {n cap : Nat} {ns : List NodeD} {w : World} (h : OwnN B (.slice a n cap) ns w) : ns.length ≤ cap := by
  obtain ⟨qs, e, hr, hk⟩ := h
  have hl : qs.length = ns.length := by rw [← e]; simp
  rcases hr.2 with ⟨e1, h0⟩ | ⟨g, c, cur, e1, _, _, hle, _⟩
  · cases e1; omega
  · cases e1; omega
theorem own_lit16 (w : World) (B : Nat) (hB : B ≤ w.heap.size) (cs : List Value) (m s : Nat) (e : TypeId) (hl : cs.length = m * s) (hm : m ≤ 100) : (w.alloc (.cells cs.toArray e)).ownsRow B e s (.slice (some ⟨w.heap.size, 0, none⟩) m m) m cs :=
  ⟨hl, .inr ⟨_, _, _, rfl, hB, heap_alloc_new w _, Nat.le_refl _, by unfold maxLen; omega, by simpa using hl, by rw [← hl]; simp⟩⟩
def here16 : NodeD := ⟨3, 0, ⟨#[]⟩, []⟩
theorem goodN_here {ss : List ByteArray} {ns : List NodeD} (h : GoodN ss ns) : GoodN ss (ns ++ [here16]) := goodN_snoc h (by unfold nodeB kidsN fieldsB kidsB inI here16; rfl) (fun e => by cases e)
/-- A list of nodes, copied into a new one, a node more behind it, and kept in a box made ahead of it. -/
theorem snoc_made {w5 w6 w7 : World} {B : Nat} {u v6 v7 : Value} {qs : List (NodeD × Value)} {ns : List NodeD} {H b : Nat} (hb : w5.heap.size = b) (hB : B ≤ b) (hqe : qs.map (·.1) = ns) (hqz : ∀ q ∈ qs, OwnZ B q.2 q.1.kids w5)
    (hH : H = b + 1)
    (h6 : w6.ownsRow H 32 4 v6 qs.length (nv qs)) (hg6 : ((w5.alloc (.cells #[u] 26)).alloc (.cells #[] 32)).grownBy w6 (some H))
    (h7 : w7.ownsRow H 32 4 v7 (qs.length + 1) (nv qs ++ [.int .i64 3, .int .i64 0, .string ⟨#[]⟩, .slice none 0 0])) (hg7 : (w6.alloc (.cells #[.int .i64 3, .int .i64 0, .string ⟨#[]⟩, .slice none 0 0] 32)).grownBy w7 v6.ownBlock) :
    w7.heap[b]? = some (.cells #[u] 26 (0, 0)) ∧ NRow (w7.setCell ⟨b, 0, none⟩ v7) v7 (ns ++ [here16]) ∧ Below w5.heap.size w5 (w7.setCell ⟨b, 0, none⟩ v7) := by
  subst hH
  have s5 : (w5.alloc (.cells #[u] 26)).heap.size = b + 1 := by simp [hb]
  have s5' : ((w5.alloc (.cells #[u] 26)).alloc (.cells #[] 32)).heap.size = b + 2 := by simp [hb]
  have hs6 := hg6.size
  rw [s5'] at hs6
  have hs7 := hg7.size
  have k6 : ∀ k, k < b + 1 → w6.heap[k]? = (w5.alloc (.cells #[u] 26)).heap[k]? := fun k hk => (hg6.block k (by rw [s5']; omega) (fun e => by have := Option.some.inj e; omega)).trans (Below.heap_alloc _ _ k (by rw [s5]; omega))
  have k7 : ∀ k, k < b + 1 → w7.heap[k]? = (w5.alloc (.cells #[u] 26)).heap[k]? := fun k hk => by
    rw [hg7.block k (by simp; omega) (fun e => by have := (World.ownsRow.lt h6 k e.symm).1; omega), Below.heap_alloc _ _ k (by omega), k6 k hk]
  have hbx : w7.heap[b]? = some (.cells #[u] 26 (0, 0)) := by
    rw [k7 b (by omega), ← hb]
    exact heap_alloc_new w5 _
  have k5 : ∀ k, k < b → w7.heap[k]? = w5.heap[k]? := fun k hk => (k7 k (by omega)).trans (Below.heap_alloc w5 _ k (by omega))
  have k8 : ∀ k, k < b → (w7.setCell ⟨b, 0, none⟩ v7).heap[k]? = w5.heap[k]? := fun k hk => (Below.heap_setCell w7 ⟨b, 0, none⟩ v7 k (by show k ≠ b; omega)).trans (k5 k hk)
  refine ⟨hbx, ?_, ⟨?_, ?_, ?_, ?_, fun k hk => k8 k (by omega)⟩⟩
  · refine OwnN.row (B := B) ⟨qs ++ [(here16, .slice none 0 0)], by rw [List.map_append, hqe]; rfl, ?_, fun q hq => ?_⟩
    · have h8 : (w7.setCell ⟨b, 0, none⟩ v7).ownsRow (b + 1) 32 4 v7 (qs.length + 1) (nv qs ++ [.int .i64 3, .int .i64 0, .string ⟨#[]⟩, .slice none 0 0]) := own_same h7 fun k hk => Below.heap_setCell w7 ⟨b, 0, none⟩ v7 k (by have := (World.ownsRow.lt h7 k hk).1; show k ≠ b; omega)
      rw [nv_app, List.length_append]
      exact World.ownsRow.mono h8 (by omega)
    · rcases List.mem_append.1 hq with h1 | h1
      · exact own_same (hqz q h1) fun k hk => k8 k (by have := (World.ownsRow.lt (hqz q h1) k hk).2; omega)
      · obtain rfl := List.mem_singleton.1 h1
        exact ⟨rfl, .inl ⟨rfl, rfl⟩⟩
  · exact hg7.os.trans hg6.os
  · exact hg7.tape.trans hg6.tape
  · exact hg7.output.trans hg6.output
  · have : w6.heap.size + 1 ≤ w7.heap.size := by simpa using hs7
    simp
    omega

theorem text_ne16 {x y : List NodeD} (hx : exprB x = true) (hy : exprB y = true) (h : ¬ x = y) : ((str (exprT x)).toList != (str (exprT y)).toList) = true := by
  have e : ¬ str (exprT x) = str (exprT y) := fun e => by
    have := congrArg (fun s : ByteArray => s.data.toList) e
    simp only [str_list] at this
    rw [exprT, exprT, if_pos hx, if_pos hy] at this
    exact h (exprW_inj hx hy this)
  rw [bne, beq_no e]; rfl

theorem text_eq16 {x y : List NodeD} (hx : exprB x = true) (hy : exprB y = true) (h : ¬ x = y) : ((str (exprT x)).toList == (str (exprT y)).toList) = false := by
  have := text_ne16 hx hy h
  rw [bne] at this
  simpa using this
set_option maxHeartbeats 6400000 in
set_option maxRecDepth 100000 in
theorem fnExprTexts_walk (a : Option Addr) (n cap : Nat) (w : World) (hcode : CodeRow w (.slice a n cap) n) (hg : errTy w) :
    Calls Tryd.prog 3 #[.slice a n cap] w fun e w' => e = .returned (.bool true) ∧ Below w.heap.size w w' := by
  obtain ⟨i0, hi, hz0, hz1, hz2⟩ := info_parts Tryd.infoNode
  have HC : Hid (CodeRow w (.slice a n cap) n) := hcode
  have HG : Hid (errTy w) := hg
  clear hcode hg
  by_cases hbig : 1048576 < (n : Int)
  · have HBg : Hid (∀ W, _) := fun W => big_e16 a n cap W
    go_enter Tryd.func3, Tryd.ntmps3
    go_wp2_with fail
    refine (HBg.out _).mono ?_
    rw [decide_eq_true hbig]
    rintro e wq ⟨rfl, hw⟩
    rw [hw]
    clear hw wq
    go_wp2
    go_ret
    exact ⟨rfl, Below.refl _ _⟩
  have HBg : Hid (∀ W, Calls Tryd.prog 4 #[.slice a n cap] W fun e w' => e = .returned (.bool false) ∧ w' = W) := fun W => by
    have := big_e16 a n cap W
    rwa [decide_eq_false hbig] at this
  have hn : n ≤ 1000000000000 := by omega
  go_enter Tryd.func3, Tryd.ntmps3
  go_wp2_with fail
  refine (HBg.out _).mono ?_
  rintro e wq ⟨rfl, hw⟩
  rw [hw]
  clear hw wq HBg
  go_wp2_with fail
  refine (drawExprText_any w (.slice a n cap) n w hn HC.out (Below.refl _ _)).mono ?_
  rintro e w1 ⟨o1, xs, rfl, ho1, hxin, hb1⟩
  obtain ⟨a1, c1, rfl⟩ := ho1.slice
  have HXi : Hid (NIn xs) := hxin
  have B1 : Hid (Below w.heap.size w (w1.alloc (.cells #[.slice a1 xs.length c1] 26))) := hb1.alloc hb1.size _
  have X1 : Hid (NRow (w1.alloc (.cells #[.slice a1 xs.length c1] 26)) (.slice a1 xs.length c1) xs) := ho1.below ((Below.refl _ _).alloc (Nat.le_refl _) _)
  have E1 := lit_one w1 (.slice a1 xs.length c1) 26
  clear hxin ho1 hb1
  go_wp2_with fail
  generalize w1.alloc (.cells #[.slice a1 xs.length c1] 26) = wb at *
  generalize w1.heap.size = be at *
  refine (implExprText_any _ xs _ (HG.out.below B1.out) HXi.out X1.out).mono ?_
  rintro e w2 ⟨rfl, hb2⟩
  have B2 : Hid (Below w.heap.size w w2) := B1.out.trans (hb2.mono B1.out.size)
  have X2 : Hid (NRow w2 (.slice a1 xs.length c1) xs) := X1.out.below hb2
  have E2 := cell_keep E1 hb2
  have HSp : Hid (∀ W, NRow W (.slice a1 xs.length c1) xs → _) := fun W h => specExprText_any (.slice a1 xs.length c1) xs W HXi.out h
  have HOk : Hid (∀ W, NRow W (.slice a1 xs.length c1) xs → _) := fun W h => specExprOk_any (.slice a1 xs.length c1) xs W HXi.out h
  generalize str (exprT xs) = st at *
  generalize exprB xs = bx at *
  clear hb2 E1 X1 B1
  go_wp2_with fail
  refine (HSp.out _ X2.out).mono ?_
  rintro e w3 ⟨rfl, hb3⟩
  have B3 : Hid (Below w.heap.size w w3) := B2.out.trans (hb3.mono B2.out.size)
  have X3 : Hid (NRow w3 (.slice a1 xs.length c1) xs) := X2.out.below hb3
  have E3 := cell_keep E2 hb3
  clear hb3 E2 X2 B2 HSp
  go_wp2_with fail
  refine (drawExpr_any w (.slice a n cap) n _ hn HC.out B3.out).mono ?_
  rintro e w4 ⟨o4, ns, rfl, ho4, hgood, hl1, hl7, hb4⟩
  have HEx : Hid (exprB ns = true) := exprB_good hgood hl1 (by omega)
  have HEy : Hid (exprB (ns ++ [here16]) = true) := exprB_good (goodN_here hgood) (by simp) (by simp; omega)
  have HNI : Hid (NIn ns) := nIn_right hgood (by omega)
  have HNJ : Hid (NIn (ns ++ [here16])) := nIn_right (goodN_here hgood) (by simp; omega)
  have HNe2 := text_eq16 HEy.out HEx.out (fun e => by have := congrArg List.length e; simp at this)
  have HNe := text_ne16 HEy.out HEx.out (fun e => by have := congrArg List.length e; simp at this)
  have HSz : Hid (3 < (str (exprT ns)).size) := by
    have := (exprW_len HEx.out).1
    rw [Hid, str_size, exprT, if_pos HEx.out]
    omega
  obtain ⟨a4, c4, rfl⟩ := ho4.row.slice
  have hc4 := ownN_cap16 ho4
  have hb3s := B3.out.size
  have B4 : Hid (Below w.heap.size w (w4.alloc (.cells #[.slice a4 ns.length c4] 26))) := (B3.out.trans (hb4.mono hb3s)).alloc (Nat.le_trans hb3s hb4.size) _
  have bal4 : Below w4.heap.size w4 (w4.alloc (.cells #[.slice a4 ns.length c4] 26)) := (Below.refl _ _).alloc (Nat.le_refl _) _
  have X4 : Hid (NRow (w4.alloc (.cells #[.slice a4 ns.length c4] 26)) (.slice a1 xs.length c1) xs) := (X3.out.below hb4).below bal4
  have O4 : Hid (OwnN w.heap.size (.slice a4 ns.length c4) ns (w4.alloc (.cells #[.slice a4 ns.length c4] 26))) := by
    obtain ⟨qs, e, hr, hk⟩ := ho4
    exact ⟨qs, e, World.ownsRow.mono (World.ownsRow.alloc hr _) hb3s, fun q hq => World.ownsRow.mono (World.ownsRow.alloc (hk q hq) _) hb3s⟩
  have E4 := cell_keep (cell_keep E3 hb4) bal4
  have F4 := lit_one w4 (.slice a4 ns.length c4) 26
  clear hgood ho4 hb4 bal4 E3 X3 B3 hb3s
  go_wp2_with fail
  generalize w4.alloc (.cells #[.slice a4 ns.length c4] 26) = wc at *
  generalize w4.heap.size = bn at *
  refine (implExprText_any _ ns _ (HG.out.below B4.out) HNI.out O4.out.row).mono ?_
  rintro e w5 ⟨rfl, hb5⟩
  rw [HEx.out]
  have B5 : Hid (Below w.heap.size w w5) := B4.out.trans (hb5.mono B4.out.size)
  have X5 : Hid (NRow w5 (.slice a1 xs.length c1) xs) := X4.out.below hb5
  have O5 : Hid (OwnN w.heap.size (.slice a4 ns.length c4) ns w5) := O4.out.below hb5
  have E5 := cell_keep E4 hb5
  have F5 := cell_keep F4 hb5
  clear hb5 E4 F4 X4 O4 B4
  obtain ⟨qs, hqe, hqr, hqz⟩ := O5.out
  have hql : qs.length = ns.length := by rw [← hqe]; simp
  obtain ⟨xb, cx, exb, _⟩ := own_some hqr (by omega)
  rw [hql] at exb
  injection exb with e1 e2 e3
  subst e1
  subst e3
  have hwb : w.heap.size ≤ w5.heap.size := B5.out.size
  have s6 : (w5.alloc (.cells #[.slice (some ⟨xb, 0, none⟩) ns.length c4] 26)).heap.size = w5.heap.size + 1 := by simp
  have bal6 : Below w5.heap.size w5 ((w5.alloc (.cells #[.slice (some ⟨xb, 0, none⟩) ns.length c4] 26)).alloc (.cells #[] 32)) := ((Below.refl _ _).alloc (Nat.le_refl _) _).alloc (by simp) _
  have F6 := cell_keep F5 bal6
  have hr0 : Hid (((w5.alloc (.cells #[.slice (some ⟨xb, 0, none⟩) ns.length c4] 26)).alloc (.cells #[] 32)).ownsRow (w5.heap.size + 1) 32 4 (.slice (some ⟨w5.heap.size + 1, 0, none⟩) 0 0) 0 []) := by
    have := World.ownsRow_made (base := w5.heap.size + 1) (w5.alloc (.cells #[.slice (some ⟨xb, 0, none⟩) ns.length c4] 26)) #[] 0 (e := 32) (size := 4) (by rw [s6]; exact Nat.le_refl _) (by decide) rfl
    rw [s6] at this
    exact this
  have HNw : Hid (∀ j u, (nv qs)[j]? = some u → ((w5.alloc (.cells #[.slice (some ⟨xb, 0, none⟩) ns.length c4] 26)).alloc (.cells #[] 32)).cell? ((⟨xb, 0, none⟩ : Addr).add j) = some u) := fun j u hu => World.ownsRow.cells (World.ownsRow.alloc (World.ownsRow.alloc hqr _) (.cells #[] 32)) (g := xb) rfl j u hu
  have HNc : Hid (∀ u ∈ nv qs, u.oneCell' = true) := nv_cells qs hqz
  have HNl : Hid ((nv qs).length = ns.length * 4) := by rw [Hid, nv_len, hql]
  have HQe : Hid (_) := hqe
  have HQz : Hid (_) := hqz
  have HQl : Hid (qs.length = ns.length) := hql
  have HS6 : Hid (_) := s6
  clear hqe hqz hqr hql bal6 s6
  go_wp2_with (at_builtin; refine wpList_append_own _ rfl _ _ 24 rfl (w5.heap.size + 1) 32 i0 _ 4 56 Tryd.underlying24 hi hz0 hz1 hz2 rfl (by decide) _ _ _ rfl hr0.out ⟨xb, 0, none⟩ ns.length c4 (nv qs) rfl HNl.out HNw.out HNc.out (by unfold maxLen; omega) (by omega) (by simp) ?_)
  intro v6 w6 hown6 hgrow6 _
  have h6 : w6.ownsRow (w5.heap.size + 1) 32 4 v6 qs.length (nv qs) := by
    rw [HQl.out]
    first | exact hown6 | (simp only [Nat.zero_add, List.nil_append] at hown6; exact hown6)
  have H6 : Hid (w6.ownsRow (w5.heap.size + 1) 32 4 v6 qs.length (nv qs)) := h6
  have HG6 : Hid (((w5.alloc (.cells #[.slice (some ⟨xb, 0, none⟩) ns.length c4] 26)).alloc (.cells #[] 32)).grownBy w6 (some (w5.heap.size + 1))) := hgrow6
  obtain ⟨rb, cap2, rfl, hrb⟩ := own_some h6 (by rw [HQl.out]; omega)
  have s7 := hgrow6.size
  have HO7 : Hid ((w6.alloc (.cells #[.int .i64 3, .int .i64 0, .string ⟨#[]⟩, .slice none 0 0] 32)).ownsRow (w5.heap.size + 1) 32 4 (.slice (some ⟨rb, 0, none⟩) ns.length cap2) ns.length (nv qs)) := by
    have := World.ownsRow.alloc h6 (.cells #[.int .i64 3, .int .i64 0, .string ⟨#[]⟩, .slice none 0 0] 32)
    rw [HQl.out] at this
    exact this
  have HNw2 : Hid (∀ j u, [Value.int .i64 3, .int .i64 0, .string ⟨#[]⟩, .slice none 0 0][j]? = some u → (w6.alloc (.cells #[.int .i64 3, .int .i64 0, .string ⟨#[]⟩, .slice none 0 0] 32)).cell? ((⟨w6.heap.size, 0, none⟩ : Addr).add j) = some u) := fun j u hu => by
    have h1 := own_lit16 w6 0 (Nat.zero_le _) [Value.int .i64 3, .int .i64 0, .string ⟨#[]⟩, .slice none 0 0] 1 4 32 rfl (by omega)
    exact World.ownsRow.cells h1 (g := w6.heap.size) rfl j u hu
  have HNc2 : Hid (∀ u ∈ [Value.int .i64 3, .int .i64 0, .string ⟨#[]⟩, .slice none 0 0], u.oneCell' = true) := fun u hu => by
    simp only [List.mem_cons, List.not_mem_nil, or_false] at hu
    rcases hu with rfl | rfl | rfl | rfl <;> rfl
  have hs6 : w5.heap.size + 2 ≤ w6.heap.size := by simpa using s7
  rw [HQl.out]
  clear h6 hown6 hgrow6 HNw HNc HNl hr0 s7
  go_wp2_with (at_builtin; refine wpList_append_own _ rfl _ _ 24 rfl (w5.heap.size + 1) 32 i0 _ 4 56 Tryd.underlying24 hi hz0 hz1 hz2 rfl (by decide) _ _ _ rfl HO7.out ⟨w6.heap.size, 0, none⟩ 1 1 _ rfl rfl HNw2.out HNc2.out (by unfold maxLen; omega) (by omega) (by simp; omega) ?_)
  intro v7 w7 hown7 hgrow7 _
  have hown7' : w7.ownsRow (w5.heap.size + 1) 32 4 v7 (qs.length + 1) (nv qs ++ [.int .i64 3, .int .i64 0, .string ⟨#[]⟩, .slice none 0 0]) := by rw [HQl.out]; exact hown7
  obtain ⟨hx7, hn7, hb7⟩ := snoc_made (B := w.heap.size) (b := w5.heap.size) rfl hwb HQe.out HQz.out rfl (by have := H6.out; rw [HQl.out] at this ⊢; exact this) HG6.out hown7' hgrow7
  obtain ⟨a7, c7, rfl⟩ := hn7.slice
  have r7 : w7.cell? ⟨w5.heap.size, 0, none⟩ = some (.slice (some ⟨xb, 0, none⟩) ns.length c4) := by rw [cell_of_row _ _ 0 _ _ _ hx7]; rfl
  have f7 : w7.frozen? ⟨w5.heap.size, 0, none⟩ = false := by simp [World.frozen?, hx7]
  have r8 : (w7.setCell ⟨w5.heap.size, 0, none⟩ (.slice a7 (ns ++ [here16]).length c7)).cell? ⟨w5.heap.size, 0, none⟩ = some (.slice a7 (ns ++ [here16]).length c7) := World.cell?_setCell_same _ _ _ r7
  have B8 : Hid (Below w.heap.size w (w7.setCell ⟨w5.heap.size, 0, none⟩ (.slice a7 (ns ++ [here16]).length c7))) := B5.out.trans (hb7.mono hwb)
  have N8 : Hid (NRow (w7.setCell ⟨w5.heap.size, 0, none⟩ (.slice a7 (ns ++ [here16]).length c7)) (.slice a7 (ns ++ [here16]).length c7) (ns ++ [here16])) := hn7
  have X8 : Hid (NRow (w7.setCell ⟨w5.heap.size, 0, none⟩ (.slice a7 (ns ++ [here16]).length c7)) (.slice a1 xs.length c1) xs) := X5.out.below hb7
  have E8 := cell_keep E5 hb7
  clear hown7 hown7' hgrow7 hx7 hn7 hb7 HO7 HNw2 HNc2 H6 HG6 HQe HQz F6 F5 E5 X5 O5 B5
  have HLy : Hid ((ns ++ [here16]).length = ns.length + 1) := by simp [Hid]
  generalize ns ++ [here16] = ys at *
  go_wp2_with fail
  generalize w7.setCell ⟨w5.heap.size, 0, none⟩ (.slice a7 ys.length c7) = w8 at *
  refine (implExprText_any _ ys _ (HG.out.below B8.out) HNJ.out N8.out).mono ?_
  rintro e w9 ⟨rfl, hb9⟩
  rw [HEy.out]
  have B9 : Hid (Below w.heap.size w w9) := B8.out.trans (hb9.mono B8.out.size)
  have X9 : Hid (NRow w9 (.slice a1 xs.length c1) xs) := X8.out.below hb9
  have E9 := cell_keep E8 hb9
  clear hb9 E8 X8 B8 N8 r8 r7 f7
  generalize str (exprT ys) = sy at *
  generalize str (exprT ns) = sn at *
  have hsz := HSz.out
  have hsz' : (3 : Int) < (sn.size : Int) := by omega
  have hbb : (bx == bx) = true := by cases bx <;> rfl
  have hss : (st.toList == st.toList) = true := beq_yes rfl
  go_wp2_with fail
  refine (HOk.out _ X9.out).mono ?_
  rintro e w10 ⟨rfl, hb10⟩
  have B10 : Hid (Below w.heap.size w w10) := B9.out.trans (hb10.mono B9.out.size)
  clear hb10
  go_wp2
  go_ret
  exact ⟨rfl, B10.out⟩

end Go.Proofs.YtbpfapjchmignaaDoor
