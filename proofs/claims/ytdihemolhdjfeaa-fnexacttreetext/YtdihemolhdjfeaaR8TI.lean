/- The program's TreeText: a closure that calls itself tells each node into a builder. -/
import Derived.Test.YtdihemolhdjfeaaR8TM
import Derived.Test.YtdihemolhdjfeaaBld
import Derived.Test.YtdihemolhdjfeaaShelf
namespace Go.Proofs.Ytdihemolhdjfeaa
open Go.RowKit
set_option linter.unusedVariables false

theorem isB_alloc {B b : Nat} {bs : List Value} {w : World} (h : Lib.IsBuilder 60 5 B b bs w) (o : Obj) : Lib.IsBuilder 60 5 B b bs (w.alloc o) := by
  have key : ∀ p, Lib.BuilderAt 60 5 B b p bs w → Lib.BuilderAt 60 5 B b p bs (w.alloc o) := fun p h => by
    have hlt := h.lt
    obtain ⟨hB, v, hb, hown, hne⟩ := h
    exact ⟨hB, v, (Lib.alloc_old w o b hlt).trans hb, hown.alloc _, hne⟩
  exact h.elim (fun h => .inl (key _ h)) (fun h => .inr (key _ h))
theorem str_app (a b : ByteArray) : Lib.strCells (a ++ b) = Lib.strCells a ++ Lib.strCells b := by
  simp [Lib.strCells, ByteArray.data_append]
theorem kept_cell {e : TypeId} {b k : Nat} {w w' : World} (h : Lib.OthersKept e (some b) w w') (hk : k ≠ b) {cs : Array Value} {T : TypeId} {fz : Nat × Nat} (hT : T ≠ e) (hh : w.heap[k]? = some (.cells cs T fz)) : w'.heap[k]? = some (.cells cs T fz) :=
  h k _ hh (fun c => hk (Option.some.inj c)) (fun c fz e1 => hT (by cases e1; rfl))
theorem bel_two {B : Nat} {a b c : World} (h : Below B a b) (k : Below B b c) : Below B a c := h.trans k

/-- What the closure captures: the tree's box, the builder, the grammar's box, the closure's own. -/
def tellV (bt bb bg bf : Nat) : Value := .func (.func 21) #[] #[.pointer (some ⟨bt, 0, none⟩), .pointer (some ⟨bb, 0, none⟩), .pointer (some ⟨bg, 0, none⟩), .pointer (some ⟨bf, 0, none⟩)]

/-- What a call of the closure knows of its world: the builder, the closure's own box, the node's copy. -/
def TS (W0 W : World) (bb bx : Nat) (fv : Value) (nd : Array Value) (acc : ByteArray) (X : World) : Prop :=
  Lib.IsBuilder 60 5 bb bb (Lib.strCells acc) X ∧ X.heap[bb + 1]? = some (.cells #[fv] 61) ∧ X.heap[bx]? = some (.cells nd 49) ∧ Below bb W0 X ∧ Below bb W X ∧ Lib.OthersKept 5 (some bb) W X
theorem TS.next {W0 W : World} {bb bx : Nat} {fv : Value} {nd : Array Value} {acc acc' : ByteArray} {X Y : World} (h : TS W0 W bb bx fv nd acc X) (hbx : bx ≠ bb) (hB : Lib.IsBuilder 60 5 bb bb (Lib.strCells acc') Y) (hb : Below bb X Y) (hk : Lib.OthersKept 5 (some bb) X Y) : TS W0 W bb bx fv nd acc' Y :=
  ⟨hB, kept_cell hk (by omega) (by decide) h.2.1, kept_cell hk hbx (by decide) h.2.2.1, h.2.2.2.1.trans hb, h.2.2.2.2.1.trans hb, h.2.2.2.2.2.trans hk⟩
theorem TS.put {W0 W : World} {bb bx : Nat} {fv : Value} {nd : Array Value} {acc s : ByteArray} {X Y : World} (h : TS W0 W bb bx fv nd acc X) (hbx : bx ≠ bb) (hB : Lib.BuilderAt 60 5 bb bb (.pointer (some ⟨bb, 0, none⟩)) (Lib.strCells acc ++ Lib.strCells s) Y) (hb : Below bb X Y) (hk : Lib.OthersKept 5 (some bb) X Y) : TS W0 W bb bx fv nd (acc ++ s) Y :=
  h.next hbx (by rw [str_app]; exact .inr hB) hb hk
theorem TS.node {W0 W : World} {bb bx : Nat} {fv : Value} {nd : Array Value} {acc : ByteArray} {X : World} (h : TS W0 W bb bx fv nd acc X) {j : Nat} {v : Value} (hj : nd[j]? = some v) : X.cell? ⟨bx, j, none⟩ = some v := by
  rw [Lib.cell_of_heap h.2.2.1]; exact hj
theorem TS.own {W0 W : World} {bb bx : Nat} {fv : Value} {nd : Array Value} {acc : ByteArray} {X : World} (h : TS W0 W bb bx fv nd acc X) : X.cell? ⟨bb + 1, 0, none⟩ = some fv := by
  rw [Lib.cell_of_heap h.2.1]; rfl

set_option maxHeartbeats 12800000 in
set_option maxRecDepth 100000 in
theorem tell_any {g : List RuleD} {xs : List TNodeD} {zs : List ByteArray} (hT : Told g zs xs) (hnl : xs.length ≤ 1048576) (hgl : g.length ≤ 1048576) (HKn : Hid (∀ i (h : i < xs.length), xs[i].kids.length ≤ 1048576)) {W0 : World} {bt bg bb : Nat} {tv gv : Value} (hbb : Hid (W0.heap.size = bb)) (hbt : W0.cell? ⟨bt, 0, none⟩ = some tv) (hbg : W0.cell? ⟨bg, 0, none⟩ = some gv) (hX : RowC 6 TreeNodeE W0 tv xs) (hG : RowC 3 RuleE W0 gv g) :
    ∀ i, i < xs.length → ∀ (acc : ByteArray) (W : World), acc.size + (zs.getD i ⟨#[]⟩).size ≤ 4000 → Lib.IsBuilder 60 5 bb bb (Lib.strCells acc) W → W.heap[bb + 1]? = some (.cells #[tellV bt bb bg (bb + 1)] 61) → Below bb W0 W →
      Calls Try.prog 21 #[.int .i64 i, .pointer (some ⟨bt, 0, none⟩), .pointer (some ⟨bb, 0, none⟩), .pointer (some ⟨bg, 0, none⟩), .pointer (some ⟨bb + 1, 0, none⟩)] W fun e w' => e = .returned (.tuple #[]) ∧ Lib.IsBuilder 60 5 bb bb (Lib.strCells (acc ++ zs.getD i ⟨#[]⟩)) w' ∧ Below bb W w' ∧ Lib.OthersKept 5 (some bb) W w' := by
  intro i
  induction i using Nat.strongRecOn with
  | ind i ih =>
    intro hi acc W hsz hB hF hW
    have IH : Hid (∀ (q : Nat), q < i → ∀ (acc : ByteArray) (W : World), acc.size + (zs.getD q ⟨#[]⟩).size ≤ 4000 → Lib.IsBuilder 60 5 bb bb (Lib.strCells acc) W → W.heap[bb + 1]? = some (.cells #[tellV bt bb bg (bb + 1)] 61) → Below bb W0 W → Calls Try.prog 21 #[.int .i64 q, .pointer (some ⟨bt, 0, none⟩), .pointer (some ⟨bb, 0, none⟩), .pointer (some ⟨bg, 0, none⟩), .pointer (some ⟨bb + 1, 0, none⟩)] W fun e w' => e = .returned (.tuple #[]) ∧ Lib.IsBuilder 60 5 bb bb (Lib.strCells (acc ++ zs.getD q ⟨#[]⟩)) w' ∧ Below bb W w' ∧ Lib.OthersKept 5 (some bb) W w') := fun q hq acc W h1 h2 h3 h4 => ih q hq (by omega) acc W h1 h2 h3 h4
    clear ih
    obtain ⟨hru, hkd, hzi, hz2⟩ := hT.2 i hi
    have hWs : bb ≤ W.heap.size := by have := hW.size; have := hbb.out; omega
    have hbf1 : bb + 1 < W.heap.size := (Array.getElem?_eq_some_iff.1 hF).1
    have KC : Hid (∀ (Y : World) (p : Addr) (v : Value), Below bb W0 Y → W0.cell? p = some v → Y.cell? p = some v) := fun Y p v hb hv => cell_keep hv (by rw [hbb.out]; exact hb)
    obtain ⟨at_, ct_, rfl⟩ := hX.slice
    obtain ⟨ag, cg, rfl⟩ := hG.slice
    obtain ⟨b, off, vs, hae, _, hc, hEl⟩ := hX.at hi
    subst hae
    obtain ⟨r0, r1, rfl, hA, hI⟩ := hEl
    obtain ⟨a2, c2, rfl⟩ := hA.slice
    obtain ⟨ak, ck, rfl⟩ := hI.slice
    have n0 := KC.out W _ _ hW (hc 0 (by simp))
    have n1 := KC.out W _ _ hW (hc 1 (by simp))
    have n2 := KC.out W _ _ hW (hc 2 (by simp))
    have n3 := KC.out W _ _ hW (hc 3 (by simp))
    have n4 := KC.out W _ _ hW (hc 4 (by simp))
    have n5 := KC.out W _ _ hW (hc 5 (by simp))
    simp only [List.getElem_cons_zero, List.getElem_cons_succ, Nat.add_zero] at n0 n1 n2 n3 n4 n5
    have i4 : (i : Int) < (xs.length : Int) := by omega
    have t0 := KC.out W _ _ hW hbt
    obtain ⟨rn, hrn⟩ := Int.eq_ofNat_of_zero_le hru.1
    have hrl : rn < g.length := by omega
    rw [hrn, Int.toNat_natCast, getD_ltR hrl] at hzi
    rw [hrn] at n0
    obtain ⟨b3, off3, vs3, hae, _, hc3, hE3⟩ := hG.at hrl
    subst hae
    obtain ⟨q0, q1, rfl, hP, hAl⟩ := hE3
    have m0 : W0.cell? ⟨b3, off3 + rn * 3, none⟩ = some (.string g[rn].name) := hc3 0 (by simp)
    have HI : Hid (IRow W0 (.slice ak xs[i].kids.length ck) xs[i].kids) := hI
    have HKd : Hid (∀ k ∈ xs[i].kids, 0 ≤ k ∧ k ≤ (i : Int) - 1) := hkd
    have hkl := HKn.out i hi
    have i5 : (rn : Int) < (g.length : Int) := by omega
    clear hc hc3 hP hAl hA hI hkd hru hrn
    generalize xs[i].alt = xal at *
    generalize xs[i].frm = xfr at *
    generalize xs[i].upto = xup at *
    generalize xs[i].args.length = xar at *
    generalize xs[i].kids = ks at *
    generalize g[rn].name = nm at *
    have hzs : (zs.getD i ⟨#[]⟩).size = nm.size + 1 + (tailT zs 0 ks).size + 1 := by
      rw [hzi, ByteArray.size_append, ByteArray.size_append, ByteArray.size_append]; rfl
    have HZ : Hid (zs.getD i ⟨#[]⟩ = nm ++ openP ++ tailT zs 0 ks ++ shutP) := hzi
    clear hzi hz2
    have hbx : W.heap.size ≠ bb := by omega
    have HT0 : Hid (TS W0 W bb W.heap.size (tellV bt bb bg (bb + 1)) #[.int .i64 rn, .int .i64 xal, .slice a2 xar c2, .int .i64 xfr, .int .i64 xup, .slice ak ks.length ck] acc (W.alloc (.cells #[.int .i64 rn, .int .i64 xal, .slice a2 xar c2, .int .i64 xfr, .int .i64 xup, .slice ak ks.length ck] 49))) :=
      ⟨isB_alloc hB _, (Lib.alloc_old W _ _ hbf1).trans hF, heap_alloc_new W _, hW.alloc hWs _, (Below.refl _ _).alloc hWs _, (Lib.OthersKept.refl _ _ W).alloc _⟩
    have g0 := KC.out _ _ _ HT0.out.2.2.2.1 hbg
    have g1 := KC.out _ _ _ HT0.out.2.2.2.1 m0
    have x0 := HT0.out.node (j := 0) rfl
    clear hB hF hbt
    go_enter Try.func21, Try.ntmps21
    go_wp2_with fail
    generalize W.alloc (.cells #[.int .i64 rn, .int .i64 xal, .slice a2 xar c2, .int .i64 xfr, .int .i64 xup, .slice ak ks.length ck] 49) = W1 at *
    generalize W.heap.size = bx at *
    refine (bld_string bb bb _ nm _ HT0.out.1 (by rw [Lib.strCells_length]; omega) (by have := HT0.out.2.2.2.1.size; have := hbb.out; omega)).mono ?_
    rintro e w1 ⟨rfl, h1, hb1, hk1⟩
    have HT1 : Hid (TS W0 W bb bx (tellV bt bb bg (bb + 1)) #[.int .i64 rn, .int .i64 xal, .slice a2 xar c2, .int .i64 xfr, .int .i64 xup, .slice ak ks.length ck] (acc ++ nm) w1) := HT0.out.put hbx h1 hb1 hk1
    clear h1 hb1 hk1 HT0 n0 n1 n2 n3 n4 n5 t0 g0 g1 x0
    go_wp2_with fail
    refine (bld_byte bb bb _ 40 _ HT1.out.1 (by rw [Lib.strCells_length, ByteArray.size_append]; omega) (by have := HT1.out.2.2.2.1.size; have := hbb.out; omega)).mono ?_
    rintro e w2 ⟨rfl, h1, hb1, hk1⟩
    have HT2 : Hid (TS W0 W bb bx (tellV bt bb bg (bb + 1)) #[.int .i64 rn, .int .i64 xal, .slice a2 xar c2, .int .i64 xfr, .int .i64 xup, .slice ak ks.length ck] (acc ++ nm ++ openP) w2) := HT1.out.put (s := openP) hbx h1 hb1 hk1
    have x5 := HT2.out.node (j := 5) rfl
    clear h1 hb1 hk1 HT1
    have HE0 : Hid (acc ++ nm ++ openP ++ tailT zs 0 ks = acc ++ (nm ++ openP) ++ tailT zs 0 ks) := by rw [Hid, ByteArray.append_assoc (a := acc)]
    have hsz0 : (acc ++ nm ++ openP).size = acc.size + nm.size + 1 := by rw [ByteArray.size_append, ByteArray.size_append]; rfl
    go_wp2
    go_loopw [26] (fun jv ww => ∃ (j : Nat) (s : ByteArray), jv = .int .i64 j ∧ j ≤ ks.length ∧ s ++ tailT zs j (ks.drop j) = acc ++ (nm ++ openP) ++ tailT zs 0 ks ∧ TS W0 W bb bx (tellV bt bb bg (bb + 1)) #[.int .i64 rn, .int .i64 xal, .slice a2 xar c2, .int .i64 xfr, .int .i64 xup, .slice ak ks.length ck] s ww) (fun jv _ => ks.length - (intOf jv).toNat)
    case atStart => exact ⟨0, _, rfl, Nat.zero_le _, HE0.out, HT2.out⟩
    case round =>
      obtain ⟨j, s, rfl, hj, hE, hTS⟩ := hrel
      have HE : Hid (s ++ tailT zs j (ks.drop j) = acc ++ (nm ++ openP) ++ tailT zs 0 ks) := hE
      have HT : Hid (TS W0 W bb bx (tellV bt bb bg (bb + 1)) #[.int .i64 rn, .int .i64 xal, .slice a2 xar c2, .int .i64 xfr, .int .i64 xup, .slice ak ks.length ck] s wr) := hTS
      have hes : s.size + (tailT zs j (ks.drop j)).size = acc.size + (nm.size + 1) + (tailT zs 0 ks).size := by
        have := congrArg ByteArray.size hE
        rw [ByteArray.size_append, ByteArray.size_append, ByteArray.size_append, ByteArray.size_append] at this
        exact this
      clear hE hTS
      by_cases hjl : j < ks.length
      · obtain ⟨bk, offk, rfl, hck⟩ := HI.out.at hjl
        have hc1 := KC.out _ _ _ HT.out.2.2.2.1 hck
        have htd := tailT_drop zs ks j hjl
        have hk := HKd.out _ (List.getElem_mem hjl)
        have i6 : (j : Int) < (ks.length : Int) := by omega
        generalize ks[j] = z at *
        obtain ⟨q, rfl⟩ := Int.eq_ofNat_of_zero_le hk.1
        have hqi : q < i := by omega
        rw [Int.toNat_natCast] at htd
        have hfv := HT.out.own
        unfold tellV at hfv
        clear hk hck
        by_cases hj0 : 0 < j
        · rw [if_pos hj0] at htd
          have HEn : Hid (s ++ blankP ++ zs.getD q ⟨#[]⟩ ++ tailT zs (j + 1) (ks.drop (j + 1)) = acc ++ (nm ++ openP) ++ tailT zs 0 ks) := by
            rw [Hid, ← HE.out, htd]
            simp only [ByteArray.append_assoc]
          have hls : s.size + 1 + (zs.getD q ⟨#[]⟩).size ≤ 4000 := by
            rw [htd, ByteArray.size_append, ByteArray.size_append] at hes
            have : blankP.size = 1 := rfl
            omega
          have hgt : (0 : Int) < (j : Int) := by omega
          clear htd hes
          have hsl : s.size ≤ 4000 := by omega
          go_wp2_with fail
          refine (bld_byte bb bb _ 32 _ HT.out.1 (by rw [Lib.strCells_length]; omega) (by have := HT.out.2.2.2.1.size; have := hbb.out; omega)).mono ?_
          rintro e w3 ⟨rfl, h1, hb1, hk1⟩
          have HT3 : Hid (TS W0 W bb bx (tellV bt bb bg (bb + 1)) _ (s ++ blankP) w3) := HT.out.put (s := blankP) hbx h1 hb1 hk1
          have hfv3 := HT3.out.own
          unfold tellV at hfv3
          clear h1 hb1 hk1 hfv hc1
          go_wp2_with fail
          refine (IH.out q hqi _ _ (by rw [ByteArray.size_append]; exact hls) HT3.out.1 HT3.out.2.1 HT3.out.2.2.2.1).mono ?_
          rintro e w4 ⟨rfl, h1, hb1, hk1⟩
          have HT4 : Hid (TS W0 W bb bx (tellV bt bb bg (bb + 1)) _ (s ++ blankP ++ zs.getD q ⟨#[]⟩) w4) := HT3.out.next hbx h1 hb1 hk1
          clear h1 hb1 hk1
          go_wp2
          go_roundw
          case rel => exact ⟨j + 1, _, by go_num, by omega, HEn.out, HT4.out⟩
          case measure => simp [intOf]; omega
        · have hj1 : ¬ (0 : Int) < (j : Int) := by omega
          rw [if_neg hj0, nil_ba] at htd
          have HEn : Hid (s ++ zs.getD q ⟨#[]⟩ ++ tailT zs (j + 1) (ks.drop (j + 1)) = acc ++ (nm ++ openP) ++ tailT zs 0 ks) := by
            rw [Hid, ← HE.out, htd]
            simp only [ByteArray.append_assoc]
          have hls : s.size + (zs.getD q ⟨#[]⟩).size ≤ 4000 := by
            rw [htd, ByteArray.size_append] at hes
            omega
          clear htd hes
          go_wp2_with fail
          refine (IH.out q hqi _ _ hls HT.out.1 HT.out.2.1 HT.out.2.2.2.1).mono ?_
          rintro e w4 ⟨rfl, h1, hb1, hk1⟩
          have HT4 : Hid (TS W0 W bb bx (tellV bt bb bg (bb + 1)) _ (s ++ zs.getD q ⟨#[]⟩) w4) := HT.out.next hbx h1 hb1 hk1
          clear h1 hb1 hk1
          go_wp2
          go_roundw
          case rel => exact ⟨j + 1, _, by go_num, by omega, HEn.out, HT4.out⟩
          case measure => simp [intOf]; omega
      · obtain rfl : j = ks.length := by omega
        have i6 : ¬ (ks.length : Int) < (ks.length : Int) := by omega
        have HEn : Hid (s ++ shutP = acc ++ zs.getD i ⟨#[]⟩) := by
          have := HE.out
          rw [List.drop_of_length_le (Nat.le_refl _), tailT, ba_nil] at this
          rw [Hid, this, HZ.out]
          simp only [ByteArray.append_assoc]
        have hsl : s.size ≤ 4000 := by omega
        clear hes
        go_wp2_with fail
        refine (bld_byte bb bb _ 41 _ HT.out.1 (by rw [Lib.strCells_length]; omega) (by have := HT.out.2.2.2.1.size; have := hbb.out; omega)).mono ?_
        rintro e w3 ⟨rfl, h1, hb1, hk1⟩
        have HT3 : Hid (TS W0 W bb bx (tellV bt bb bg (bb + 1)) #[.int .i64 rn, .int .i64 xal, .slice a2 xar c2, .int .i64 xfr, .int .i64 xup, .slice ak ks.length ck] (s ++ shutP) w3) := HT.out.put (s := shutP) hbx h1 hb1 hk1
        clear h1 hb1 hk1
        rw [HEn.out] at HT3
        go_wp2
        go_end0
        exact ⟨rfl, HT3.out.1, HT3.out.2.2.2.2.1, HT3.out.2.2.2.2.2⟩

end Go.Proofs.Ytdihemolhdjfeaa
