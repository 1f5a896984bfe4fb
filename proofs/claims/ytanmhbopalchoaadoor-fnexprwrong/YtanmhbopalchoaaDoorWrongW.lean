/- The law on what tells nothing, walked. -/
import Derived.Test.YtanmhbopalchoaaDoorXWrong0
import Derived.Test.YtanmhbopalchoaaDoorEnvTop
namespace Go.Proofs.YtanmhbopalchoaaDoor
open Go.RowKit

theorem big_wrong (a : Option Addr) (n cap : Nat) (w : World) :
    Calls Tryd.prog 8 #[.slice a n cap] w fun e w' => e = .returned (.bool (decide (1048576 < (n : Int)))) ∧ w' = w := by
  go_enter Tryd.func8, Tryd.ntmps8
  go_wp2
  go_ret
  exact ⟨rfl, rfl⟩
theorem keep_two {W W' : World} {a b : Addr} {x y : Value} (h : W.cell? a = some x ∧ W.cell? b = some y) (hb : Below W.heap.size W W') : W'.cell? a = some x ∧ W'.cell? b = some y :=
  ⟨cell_keep h.1 hb, cell_keep h.2 hb⟩
/-- EvalExpr with no names. -/
theorem eval_bare {w : World} (hg : errTy w) (v : Value) (b : Nat) (ns : List NodeD) (here z : Int) (ok : Bool) (he : optV (evalB ns (getB []) here) = .tuple #[.int .i64 z, .bool ok]) (W : World) (hb : Below w.heap.size w W) (h : NRow W v ns) :
    Calls Tryd.prog 12 #[.agg #[v], .slice (some ⟨b, 0, none⟩) 0 0, .int .i64 here] W fun e w' => e = .returned (.tuple #[.int .i64 z, .bool ok]) ∧ Below W.heap.size W w' := by
  rw [← he]
  exact implEvalExpr_any _ _ ns [] here W (hg.below hb) (by simp) h ⟨_, _, rfl, fun e => (by cases e), fun h => absurd h (by simp)⟩
/-- What goes along. -/
structure Wr (w : World) (gp : Nat) (z0 z1 : Int) (b4 : Nat) (T : Value) (wk : World) : Prop where
  bel : Below w.heap.size w wk
  c0 : wk.cell? ⟨gp, 0, none⟩ = some (.int .i64 z0)
  c1 : wk.cell? ⟨gp, 1, none⟩ = some (.int .i64 z1)
  box : wk.cell? ⟨b4, 0, none⟩ = some T
  own : OwnN w.heap.size T (two 6 99 99) wk
theorem Wr.on {w : World} {gp : Nat} {z0 z1 : Int} {b4 : Nat} {T : Value} {wk wl : World} (h : Wr w gp z0 z1 b4 T wk) (hb : Below wk.heap.size wk wl) : Wr w gp z0 z1 b4 T wl :=
  ⟨h.bel.trans (hb.mono h.bel.size), cell_keep h.c0 hb, cell_keep h.c1 hb, cell_keep h.box hb, h.own.below hb⟩
theorem Wr.alloc {w : World} {gp : Nat} {z0 z1 : Int} {b4 : Nat} {T : Value} {wk : World} (h : Wr w gp z0 z1 b4 T wk) (o : Obj) : Wr w gp z0 z1 b4 T (wk.alloc o) := h.on ((Below.refl _ _).alloc (Nat.le_refl _) _)
/-- A node written out. -/
theorem row_one (w : World) (op num : Int) (name : ByteArray) : NRow (w.alloc (.cells #[.int .i64 op, .int .i64 num, .string name, .slice none 0 0] 35)) (.slice (some ⟨w.heap.size, 0, none⟩) 1 1) [⟨op, num, name, []⟩] :=
  OwnN.row (B := w.heap.size) ⟨[(⟨op, num, name, []⟩, .slice none 0 0)], rfl, own_lit w w.heap.size (Nat.le_refl _) [.int .i64 op, .int .i64 num, .string name, .slice none 0 0] 1 4 35 rfl (by omega), fun q hq => by obtain rfl := List.mem_singleton.1 hq; exact ⟨rfl, .inl ⟨rfl, rfl⟩⟩⟩
/-- The expression of five nodes, put together and kept in its cell. -/
theorem big_made {w w14 w15 w16 : World} {gp b4 b13 s14 : Nat} {z0 z1 : Int} {T u o3 : Value} {qs : List (NodeD × Value)} {ob : Obj} (hW : Wr w gp z0 z1 b4 T w14) (hx : EBox b13 u w14) (hs : w14.heap.size = s14)
    (hqe : qs.map (·.1) = two 6 99 99) (hqz : ∀ q ∈ qs, OwnZ w.heap.size q.2 q.1.kids w14) {o2 : Value} (hr2 : w15.ownsRow s14 35 4 o2 3 (nv qs)) (hg2 : (w14.alloc ob).grownBy w15 (some s14))
    (hr : w16.ownsRow s14 35 4 o3 5 (nv qs ++ [.int .i64 1, .int .i64 99, .string ⟨#[]⟩, .slice none 0 0, .int .i64 6, .int .i64 0, .string ⟨#[]⟩, .slice (some ⟨w15.heap.size, 0, none⟩) 2 2])) (hgr : ((w15.alloc (.cells #[.int .i64 2, .int .i64 3] 3)).alloc (.cells #[.int .i64 1, .int .i64 99, .string ⟨#[]⟩, .slice none 0 0, .int .i64 6, .int .i64 0, .string ⟨#[]⟩, .slice (some ⟨w15.heap.size, 0, none⟩) 2 2] 35)).grownBy w16 o2.ownBlock) :
    EBox b13 u w16 ∧ NRow (w16.setCell ⟨b13, 0, none⟩ o3) o3 big5 ∧ Below w14.heap.size w14 w16 := by
  subst hs
  have hs15 : w14.heap.size < w15.heap.size := by have := hg2.size; simp at this; omega
  have hs16 : w15.heap.size < w16.heap.size := by have := hgr.size; simp at this; omega
  have k15 : ∀ k, k < w14.heap.size → w15.heap[k]? = w14.heap[k]? := fun k hk => (hg2.block k (by simp; omega) (fun e => by have := Option.some.inj e; omega)).trans (Below.heap_alloc w14 ob k hk)
  have kA : ∀ k, k < w15.heap.size → ((w15.alloc (.cells #[.int .i64 2, .int .i64 3] 3)).alloc (.cells #[.int .i64 1, .int .i64 99, .string ⟨#[]⟩, .slice none 0 0, .int .i64 6, .int .i64 0, .string ⟨#[]⟩, .slice (some ⟨w15.heap.size, 0, none⟩) 2 2] 35)).heap[k]? = w15.heap[k]? := fun k hk => by rw [Below.heap_alloc _ _ k (by simp; omega), Below.heap_alloc _ _ k hk]
  have k16 : ∀ k, k < w14.heap.size → w16.heap[k]? = w14.heap[k]? := fun k hk => by
    rw [hgr.block k (by simp; omega) (fun e => by have := (World.ownsRow.lt hr2 k e.symm).1; omega), kA k (by omega), k15 k hk]
  have hx16 : EBox b13 u w16 := hx.same (k16 b13 hx.lt)
  have K0 := own_lit w15 w.heap.size (by have := hW.bel.size; omega) [.int .i64 2, .int .i64 3] 2 1 3 rfl (by omega)
  have K1 := World.ownsRow.alloc K0 (.cells #[.int .i64 1, .int .i64 99, .string ⟨#[]⟩, .slice none 0 0, .int .i64 6, .int .i64 0, .string ⟨#[]⟩, .slice (some ⟨w15.heap.size, 0, none⟩) 2 2] 35)
  have hne : o2.ownBlock ≠ some w15.heap.size := fun e => by have := (World.ownsRow.lt hr2 _ e).2; omega
  have K2 : OwnZ w.heap.size (.slice (some ⟨w15.heap.size, 0, none⟩) 2 2) [2, 3] w16 := own_same K1 fun k hk => by
    obtain rfl : w15.heap.size = k := Option.some.inj hk
    exact hgr.block _ (by simp; omega) (fun e => hne e.symm)
  have hO : OwnN w.heap.size o3 big5 w16 := by
    refine ⟨qs ++ [(⟨1, 99, ⟨#[]⟩, []⟩, .slice none 0 0), (⟨6, 0, ⟨#[]⟩, [2, 3]⟩, .slice (some ⟨w15.heap.size, 0, none⟩) 2 2)], by rw [List.map_append, hqe]; rfl, ?_, fun q hq => ?_⟩
    · have hl : qs.length = 3 := by have := congrArg List.length hqe; simpa [two] using this
      rw [nv_app, List.length_append, hl]
      exact World.ownsRow.mono hr hW.bel.size
    · rcases List.mem_append.1 hq with h1 | h1
      · exact own_same (hqz q h1) fun k hk => k16 k (World.ownsRow.lt (hqz q h1) k hk).2
      · simp only [List.mem_cons, List.not_mem_nil, or_false] at h1
        rcases h1 with rfl | rfl
        · exact ⟨rfl, .inl ⟨rfl, rfl⟩⟩
        · exact K2
  exact ⟨hx16, (hO.setE hx16 o3).row, ⟨hgr.os.trans hg2.os, hgr.tape.trans hg2.tape, hgr.output.trans hg2.output, by omega, k16⟩⟩

set_option maxHeartbeats 6400000 in
set_option maxRecDepth 100000 in
theorem fnExprWrong_walk (a : Option Addr) (n cap : Nat) (w : World) (hcode : CodeRow w (.slice a n cap) n) (hg : errTy w) :
    Calls Tryd.prog 5 #[.slice a n cap] w fun e w' => e = .returned (.bool true) ∧ Below w.heap.size w w' := by
  obtain ⟨i0, hi, hz0, hz1, hz2⟩ := info_parts Tryd.infoNode
  have HC : Hid (CodeRow w (.slice a n cap) n) := hcode
  have HG : Hid (errTy w) := hg
  clear hcode hg
  by_cases hbig : 1048576 < (n : Int)
  · have HBg : Hid (∀ W, _) := fun W => big_wrong a n cap W
    go_enter Tryd.func5, Tryd.ntmps5
    go_wp2_with fail
    refine (HBg.out _).mono ?_
    rw [decide_eq_true hbig]
    rintro e wq ⟨rfl, hw⟩
    rw [hw]
    clear hw wq
    go_wp2
    go_ret
    exact ⟨rfl, Below.refl _ _⟩
  have HBg : Hid (∀ W, Calls Tryd.prog 8 #[.slice a n cap] W fun e w' => e = .returned (.bool false) ∧ w' = W) := fun W => by
    have := big_wrong a n cap W
    rwa [decide_eq_false hbig] at this
  have hn : n ≤ 1000000000000 := by omega
  go_enter Tryd.func5, Tryd.ntmps5
  go_wp2_with fail
  refine (HBg.out _).mono ?_
  rintro e wq ⟨rfl, hw⟩
  rw [hw]
  clear hw wq HBg
  go_wp2_with fail
  refine (drawPlaces_any w (.slice a n cap) n w hn HC.out (Below.refl _ _)).mono ?_
  rintro e w1 ⟨p, rfl, hp, hb1⟩
  obtain ⟨gp, cpp, f, rfl, _, hcp, hf⟩ := hp.at
  obtain ⟨a0, a1, ac⟩ := hf 0 (by omega)
  obtain ⟨d0, d1, dc⟩ := hf 1 (by omega)
  have hrem : IntKind.i64.wrap ((f 0).tmod 100) = f 0 % 100 := by rw [Int.tmod_eq_emod_of_nonneg a0, IntKind.wrap_i64]; omega
  have hrem2 : IntKind.i64.wrap ((f 1).tmod 12) = f 1 % 12 := by rw [Int.tmod_eq_emod_of_nonneg d0, IntKind.wrap_i64]; omega
  have hremA : (f 0).tmod 100 = f 0 % 100 := Int.tmod_eq_emod_of_nonneg a0
  have hremB : (f 1).tmod 12 = f 1 % 12 := Int.tmod_eq_emod_of_nonneg d0
  have hz : 0 ≤ f 0 % 100 ∧ f 0 % 100 < 100 := by omega
  have hh : 0 ≤ f 1 % 12 ∧ f 1 % 12 < 12 := by omega
  have B1 : Hid (Below w.heap.size w w1) := hb1
  have AC : Hid (_) := ac
  have DC : Hid (_) := dc
  clear hp hf hb1 a0 a1 d0 d1 ac dc
  generalize f 0 = y0 at *
  generalize f 1 = y1 at *
  have EvT : Hid (optV (evalB (two 6 99 99) (getB []) 0) = .tuple #[.int .i64 9801, .bool true]) := by rw [Hid, ev_two]; rfl
  have EvD : Hid (optV (evalB (two 7 (y0 % 100) 0) (getB []) 0) = .tuple #[.int .i64 0, .bool false]) := by rw [Hid, ev_div _ hz.1 hz.2]; rfl
  have EvN : Hid (optV (evalB [⟨2, 0, ⟨#[97]⟩, []⟩] (getB []) 0) = .tuple #[.int .i64 0, .bool false]) := by rw [Hid, ev_name]; rfl
  have EvH : Hid (optV (evalB [⟨3, 0, ⟨#[]⟩, []⟩] (getB []) (y1 % 12)) = .tuple #[.int .i64 (y1 % 12), .bool true]) := by rw [Hid, ev_here _ hh.1 hh.2]; rfl
  have EvB : Hid (optV (evalB big5 (getB []) 0) = .tuple #[.int .i64 0, .bool false]) := by rw [Hid, ev_big]; rfl
  generalize y0 % 100 = z at *
  generalize y1 % 12 = here at *
  go_wp2_with fail
  refine (twoOf_any 6 99 99 w1).mono ?_
  rintro e w2 ⟨rfl, hO2, hb2⟩
  have WR : Hid (Wr w gp y0 y1 w2.heap.size (.slice (some ⟨w1.heap.size + 2, 0, none⟩) 3 3) (w2.alloc (.cells #[.slice (some ⟨w1.heap.size + 2, 0, none⟩) 3 3] 26))) := by
    have bal : Below w2.heap.size w2 (w2.alloc (.cells #[.slice (some ⟨w1.heap.size + 2, 0, none⟩) 3 3] 26)) := (Below.refl _ _).alloc (Nat.le_refl _) _
    have B2 : Below w.heap.size w w2 := B1.out.trans (hb2.mono B1.out.size)
    exact ⟨B2.trans (bal.mono B2.size), cell_keep (cell_keep AC.out hb2) bal, cell_keep (cell_keep DC.out hb2) bal, lit_one _ _ _, (hO2.base B1.out.size).below bal⟩
  clear hO2 hb2 AC DC B1
  have c3 := WR.out.box
  have W4 : Hid (_) := WR.out.alloc (.cells #[] 76)
  have c4 := W4.out.box
  have HE4 : Hid (_) := eval_bare HG.out _ (w2.heap.size + 1) _ 0 _ _ EvT.out _ W4.out.bel W4.out.own.row
  go_wp2_with fail
  refine Calls.mono HE4.out ?_
  rintro e w5 ⟨rfl, hb5⟩
  have W5 : Hid (_) := W4.out.on hb5
  clear hb5 WR W4 HE4 c3 c4
  generalize w1.heap.size + 2 = tb at *
  generalize w2.heap.size = b4 at *
  -- divided by nothing
  have c5 := W5.out.c0
  go_wp2_with fail
  refine (twoOf_any 7 z 0 w5).mono ?_
  rintro e w6 ⟨rfl, hO6, hb6⟩
  have W6 : Hid (_) := W5.out.on hb6
  have W7 : Hid (_) := W6.out.alloc (.cells #[] 76)
  have HE7 : Hid (_) := eval_bare HG.out _ w6.heap.size _ 0 _ _ EvD.out (w6.alloc (.cells #[] 76)) W7.out.bel (hO6.row.below ((Below.refl _ _).alloc (Nat.le_refl _) _))
  clear hO6 hb6 c5 W5
  go_wp2_with fail
  refine Calls.mono HE7.out ?_
  rintro e w8 ⟨rfl, hb8⟩
  have W8 : Hid (_) := W7.out.on hb8
  clear hb8 W6 W7 HE7
  -- a name that is not there
  have W9 : Hid (_) := (W8.out.alloc (.cells #[.int .i64 2, .int .i64 0, .string ⟨#[97]⟩, .slice none 0 0] 35)).alloc (.cells #[] 76)
  have HE9 : Hid (_) := eval_bare HG.out _ (w8.heap.size + 1) _ 0 _ _ EvN.out ((w8.alloc (.cells #[.int .i64 2, .int .i64 0, .string ⟨#[97]⟩, .slice none 0 0] 35)).alloc (.cells #[] 76)) W9.out.bel ((row_one w8 2 0 ⟨#[97]⟩).below ((Below.refl _ _).alloc (Nat.le_refl _) _))
  go_wp2_with fail
  refine Calls.mono HE9.out ?_
  rintro e w10 ⟨rfl, hb10⟩
  have W10 : Hid (_) := W9.out.on hb10
  clear hb10 W8 W9 HE9
  -- here
  have W11 : Hid (_) := (W10.out.alloc (.cells #[.int .i64 3, .int .i64 0, .string ⟨#[]⟩, .slice none 0 0] 35)).alloc (.cells #[] 76)
  have c11 := W11.out.c1
  have HE11 : Hid (_) := eval_bare HG.out _ (w10.heap.size + 1) _ here _ _ EvH.out ((w10.alloc (.cells #[.int .i64 3, .int .i64 0, .string ⟨#[]⟩, .slice none 0 0] 35)).alloc (.cells #[] 76)) W11.out.bel ((row_one w10 3 0 ⟨#[]⟩).below ((Below.refl _ _).alloc (Nat.le_refl _) _))
  go_wp2_with fail
  refine Calls.mono HE11.out ?_
  rintro e w13 ⟨rfl, hb13⟩
  have W13 : Hid (_) := W11.out.on hb13
  clear hb13 W10 W11 HE11 c11
  -- beyond
  have c13 := W13.out.box
  have W14 : Hid (Wr w gp y0 y1 b4 (.slice (some ⟨tb, 0, none⟩) 3 3) (w13.alloc (.cells #[.slice (some ⟨tb, 0, none⟩) 3 3] 26))) := W13.out.alloc (.cells #[.slice (some ⟨tb, 0, none⟩) 3 3] 26)
  have E14 : Hid (EBox w13.heap.size (.slice (some ⟨tb, 0, none⟩) 3 3) (w13.alloc (.cells #[.slice (some ⟨tb, 0, none⟩) 3 3] 26))) := EBox.made _ _
  have hwb : w.heap.size ≤ w13.heap.size := W13.out.bel.size
  obtain ⟨qs, hqe, hqr, hqz⟩ := W14.out.own
  have hql : qs.length = 3 := by have := congrArg List.length hqe; simpa [two] using this
  rw [hql] at hqr
  have s14 : (w13.alloc (.cells #[.slice (some ⟨tb, 0, none⟩) 3 3] 26)).heap.size = w13.heap.size + 1 := by simp
  have c15 : ((w13.alloc (.cells #[.slice (some ⟨tb, 0, none⟩) 3 3] 26)).alloc (.cells #[] 35)).cell? ⟨b4, 0, none⟩ = some (.slice (some ⟨tb, 0, none⟩) 3 3) := (W14.out.alloc (.cells #[] 35)).box
  have hr0 : Hid (((w13.alloc (.cells #[.slice (some ⟨tb, 0, none⟩) 3 3] 26)).alloc (.cells #[] 35)).ownsRow (w13.heap.size + 1) 35 4 (.slice (some ⟨w13.heap.size + 1, 0, none⟩) 0 0) 0 []) := by
    have := World.ownsRow_made (base := w13.heap.size + 1) (w13.alloc (.cells #[.slice (some ⟨tb, 0, none⟩) 3 3] 26)) #[] 0 (e := 35) (size := 4) (by rw [s14]; exact Nat.le_refl _) (by decide) rfl
    rw [s14] at this
    exact this
  have HNw : Hid (∀ j u, (nv qs)[j]? = some u → ((w13.alloc (.cells #[.slice (some ⟨tb, 0, none⟩) 3 3] 26)).alloc (.cells #[] 35)).cell? ((⟨tb, 0, none⟩ : Addr).add j) = some u) := fun j u hu => World.ownsRow.cells (World.ownsRow.alloc hqr (.cells #[] 35)) (g := tb) rfl j u hu
  have HNc : Hid (∀ u ∈ nv qs, u.oneCell' = true) := nv_cells qs hqz
  have HNl : Hid ((nv qs).length = 3 * 4) := by rw [Hid, nv_len, hql]
  have HS14 : Hid (_) := s14
  have HQe : Hid (_) := hqe
  have HQz : Hid (_) := hqz
  clear hqr hqz hqe hql s14
  go_wp2_with (at_builtin; refine wpList_append_own _ rfl _ _ 24 rfl (w13.heap.size + 1) 35 i0 _ 4 56 Tryd.underlying24 hi hz0 hz1 hz2 rfl (by decide) _ _ _ rfl hr0.out ⟨tb, 0, none⟩ 3 3 (nv qs) rfl HNl.out HNw.out HNc.out (by unfold maxLen; omega) (by omega) (by simp) ?_)
  intro o2 w15 hown15 hgrow15 _
  have hown : w15.ownsRow (w13.heap.size + 1) 35 4 o2 3 (nv qs) := by
    have := hown15
    first | exact this | (simp only [Nat.zero_add, List.nil_append] at this; exact this)
  obtain ⟨rb, cap2, rfl, hrb⟩ := own_some hown (by omega)
  have hs15 : w13.heap.size + 2 ≤ w15.heap.size := by have := hgrow15.size; simp at this; omega
  have HO2 : Hid (((w15.alloc (.cells #[.int .i64 2, .int .i64 3] 3)).alloc (.cells #[.int .i64 1, .int .i64 99, .string ⟨#[]⟩, .slice none 0 0, .int .i64 6, .int .i64 0, .string ⟨#[]⟩, .slice (some ⟨w15.heap.size, 0, none⟩) 2 2] 35)).ownsRow (w13.heap.size + 1) 35 4 (.slice (some ⟨rb, 0, none⟩) 3 cap2) 3 (nv qs)) := World.ownsRow.alloc (World.ownsRow.alloc hown _) _
  have HR2 : Hid (w15.ownsRow (w13.heap.size + 1) 35 4 (.slice (some ⟨rb, 0, none⟩) 3 cap2) 3 (nv qs)) := hown
  have HG2 : Hid (((w13.alloc (.cells #[.slice (some ⟨tb, 0, none⟩) 3 3] 26)).alloc (.cells #[] 35)).grownBy w15 (some (w13.heap.size + 1))) := hgrow15
  have HNw2 : Hid (∀ j u, [Value.int .i64 1, .int .i64 99, .string ⟨#[]⟩, .slice none 0 0, .int .i64 6, .int .i64 0, .string ⟨#[]⟩, .slice (some ⟨w15.heap.size, 0, none⟩) 2 2][j]? = some u → ((w15.alloc (.cells #[.int .i64 2, .int .i64 3] 3)).alloc (.cells #[.int .i64 1, .int .i64 99, .string ⟨#[]⟩, .slice none 0 0, .int .i64 6, .int .i64 0, .string ⟨#[]⟩, .slice (some ⟨w15.heap.size, 0, none⟩) 2 2] 35)).cell? ((⟨w15.heap.size + 1, 0, none⟩ : Addr).add j) = some u) := fun j u hu => by
    have h1 := own_lit (w15.alloc (.cells #[.int .i64 2, .int .i64 3] 3)) 0 (Nat.zero_le _) [Value.int .i64 1, .int .i64 99, .string ⟨#[]⟩, .slice none 0 0, .int .i64 6, .int .i64 0, .string ⟨#[]⟩, .slice (some ⟨w15.heap.size, 0, none⟩) 2 2] 2 4 35 rfl (by omega)
    have h2 : (w15.alloc (.cells #[.int .i64 2, .int .i64 3] 3)).heap.size = w15.heap.size + 1 := by simp
    rw [h2] at h1
    exact World.ownsRow.cells h1 (g := w15.heap.size + 1) rfl j u hu
  have HNc2 : Hid (∀ u ∈ [Value.int .i64 1, .int .i64 99, .string ⟨#[]⟩, .slice none 0 0, .int .i64 6, .int .i64 0, .string ⟨#[]⟩, .slice (some ⟨w15.heap.size, 0, none⟩) 2 2], u.oneCell' = true) := fun u hu => by
    simp only [List.mem_cons, List.not_mem_nil, or_false] at hu
    rcases hu with rfl | rfl | rfl | rfl | rfl | rfl | rfl | rfl <;> rfl
  clear hown hown15 hgrow15 HNw HNc HNl hr0 c15 c13
  go_wp2_with (at_builtin; refine wpList_append_own _ rfl _ _ 24 rfl (w13.heap.size + 1) 35 i0 _ 4 56 Tryd.underlying24 hi hz0 hz1 hz2 rfl (by decide) _ _ _ rfl HO2.out ⟨w15.heap.size + 1, 0, none⟩ 2 2 _ rfl rfl HNw2.out HNc2.out (by unfold maxLen; omega) (by omega) (by simp; omega) ?_)
  intro o3 w16 hown16 hgrow16 _
  obtain ⟨e16, n16, b16⟩ := big_made W14.out E14.out HS14.out HQe.out HQz.out HR2.out HG2.out hown16 hgrow16
  obtain ⟨a3, c3, rfl⟩ := n16.slice
  have q16 := e16.cell
  have f16 := e16.frozen
  have W17 : Hid (Wr w gp y0 y1 b4 (.slice (some ⟨tb, 0, none⟩) 3 3) (w16.setCell ⟨w13.heap.size, 0, none⟩ (.slice a3 big5.length c3))) := W13.out.on ((((Below.refl _ _).alloc (Nat.le_refl _) (.cells #[.slice (some ⟨tb, 0, none⟩) 3 3] 26)).trans (b16.mono (by simp))).setCell (Nat.le_refl _) _)
  have N17 : Hid (NRow (w16.setCell ⟨w13.heap.size, 0, none⟩ (.slice a3 big5.length c3)) (.slice a3 big5.length c3) big5) := n16
  have r17 := (e16.set (.slice a3 big5.length c3)).cell
  have W18 : Hid (_) := W17.out.alloc (.cells #[] 76)
  have HE18 : Hid (_) := eval_bare HG.out _ w16.heap.size _ 0 _ _ EvB.out ((w16.setCell ⟨w13.heap.size, 0, none⟩ (.slice a3 big5.length c3)).alloc (.cells #[] 76)) W18.out.bel (N17.out.below ((Below.refl _ _).alloc (Nat.le_refl _) _))
  clear n16 e16 b16 hown16 hgrow16 HNw2 HNc2 HO2 HR2 HG2 HQe HQz E14 W14 W13
  go_wp2_with fail
  refine Calls.mono HE18.out ?_
  rintro e w19 ⟨rfl, hb19⟩
  have W19 : Hid (_) := W18.out.on hb19
  clear hb19 W17 W18 HE18 N17 r17 q16 f16
  go_wp2_with fail
  refine (drawExprOk_any w (.slice a n cap) n w19 hn HC.out W19.out.bel).mono ?_
  rintro e w20 ⟨ox, nx, rfl, hNx, hIx, hb20⟩
  obtain ⟨ax, cx, rfl⟩ := hNx.slice
  have W21 : Hid (_) := (W19.out.on hb20).alloc (.cells #[.slice ax nx.length cx] 26)
  have N21 : Hid (NRow (w20.alloc (.cells #[.slice ax nx.length cx] 26)) (.slice ax nx.length cx) nx) := hNx.below ((Below.refl _ _).alloc (Nat.le_refl _) _)
  have HIx : Hid (NIn nx) := hIx
  have cb := lit_one w20 (.slice ax nx.length cx) 26
  have cp := W21.out.c1
  have B21 : Hid (Below w.heap.size w (w20.alloc (.cells #[.slice ax nx.length cx] 26))) := W21.out.bel
  clear hNx hIx hb20 W19 W21
  have HI : Hid (∀ W : World, errTy W → NRow W (.slice ax nx.length cx) nx → Calls Tryd.prog 14 #[.agg #[.slice ax nx.length cx]] W fun e w' => e = .returned (.bool (exprB nx)) ∧ Below W.heap.size W w') := fun W h1 h => implExprOk_any _ nx W h1 h
  have HSp : Hid (∀ W : World, NRow W (.slice ax nx.length cx) nx → Calls Tryd.prog 24 #[.agg #[.slice ax nx.length cx]] W fun e w' => e = .returned (.bool (exprB nx)) ∧ Below W.heap.size W w') := fun W h => specExprOk_any _ nx W HIx.out h
  have HTy : Hid (errTy (w20.alloc (.cells #[.slice ax nx.length cx] 26))) := HG.out.below B21.out
  generalize exprB nx = bx at *
  go_wp2
  generalize (w20.alloc (.cells #[.slice ax nx.length cx] 26)) = w21 at *
  generalize w20.heap.size = b16 at *
  go_region_held3 (fun W => W.cell? ⟨gp, 1, none⟩ = some (.int .i64 y1) ∧ W.cell? ⟨b16, 0, none⟩ = some (.slice ax nx.length cx))
    ((first | exact keep_two (by assumption) hb23 | exact keep_two (by assumption) hb22 | go_keep))
    ((first
      | (go_at_call 24; refine (HSp.out _ ((N21.out.below (bel_drewN (Below.refl _ _) 1)).below hb22)).mono ?_; rintro e w23 ⟨rfl, hb23⟩)
      | (go_at_call 14; refine (HI.out _ (HTy.out.below (bel_drewN (Below.refl _ _) 1)) (N21.out.below (bel_drewN (Below.refl _ _) 1))).mono ?_; rintro e w22 ⟨rfl, hb22⟩)))
  have B22 := B21.out.trans ((bel_of_drew hb22).mono B21.out.size)
  have HB : Hid (Below w.heap.size w w23) := B22.trans (hb23.mono B22.size)
  clear hb22 hb23 B22
  go_wp2
  go_ret
  exact ⟨by simp, HB.out⟩
end Go.Proofs.YtanmhbopalchoaaDoor
