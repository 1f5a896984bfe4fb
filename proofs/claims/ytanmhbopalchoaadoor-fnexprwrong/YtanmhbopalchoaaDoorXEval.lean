/- EvalExpr of the specification. -/
import Derived.Test.YtanmhbopalchoaaDoorXMarkW
namespace Go.Proofs.YtanmhbopalchoaaDoor
open Go.RowKit

theorem capB_some {o : Option Int} {z : Int} (h : capB o = some z) : small z := by
  unfold capB at h
  cases o with
  | none => cases h
  | some n =>
    simp only [Option.bind_some] at h
    split at h
    · rename_i hi
      have e : n = z := Option.some.inj h
      subst e
      simpa [inI, small] using hi
    · cases h
theorem valN_small {ns : List NodeD} (hn : ∀ k (hk : k < ns.length), nodeB k ns[k] = true) {env : ByteArray → Option Int} {here : Int} {i : Nat} {z : Int} (hi : i < ns.length) (h : valN ns env here i = some z) : small z := by
  rw [valN_eq hn env here i hi] at h
  split at h
  · cases h
  · exact capB_some h
theorem kids_two {i : Nat} {x : NodeD} (h : nodeB i x = true) (h1 : ¬ x.op = 1) (h2 : ¬ x.op = 2) (h3 : ¬ x.op = 3) (h11 : ¬ x.op = 11) : ∃ a b : Nat, x.kids = [(a : Int), (b : Int)] ∧ a < i ∧ b < i ∧ 4 ≤ x.op := by
  obtain ⟨ho, hl, _, hk⟩ := node_parts h
  rw [kidsN, if_neg (by omega), if_neg h11] at hl
  match hx : x.kids, hl with
  | [p, q], _ =>
    have hp := hk p (by rw [hx]; simp)
    have hq := hk q (by rw [hx]; simp)
    exact ⟨p.toNat, q.toNat, by rw [Int.toNat_of_nonneg hp.1, Int.toNat_of_nonneg hq.1], by omega, by omega, by omega⟩
theorem kids_one {i : Nat} {x : NodeD} (h : nodeB i x = true) (h11 : x.op = 11) : ∃ a : Nat, x.kids = [(a : Int)] ∧ a < i := by
  obtain ⟨ho, hl, _, hk⟩ := node_parts h
  rw [kidsN, if_neg (by omega), if_pos h11] at hl
  match hx : x.kids, hl with
  | [p], _ =>
    have hp := hk p (by rw [hx]; simp)
    exact ⟨p.toNat, by rw [Int.toNat_of_nonneg hp.1], by omega⟩
theorem kids_no {i : Nat} {x : NodeD} (h : nodeB i x = true) (h3 : x.op = 1 ∨ x.op = 2 ∨ x.op = 3) : x.kids = [] := by
  obtain ⟨ho, hl, _, hk⟩ := node_parts h
  rw [kidsN, if_pos h3] at hl
  exact List.eq_nil_of_length_eq_zero (by omega)
theorem num_fine {i : Nat} {x : NodeD} (h : nodeB i x = true) (h1 : x.op = 1) : 0 ≤ x.num ∧ x.num ≤ 99 := by
  obtain ⟨_, _, hf, _⟩ := node_parts h
  rw [fieldsB, if_pos h1, Bool.and_eq_true, inI, decide_eq_true_eq] at hf
  exact hf.1
theorem capB_yes {n : Int} (h : inI n (-9999) 9999 = true) : capB (some n) = some n := by simp [capB, h]
theorem capB_no {n : Int} (h : inI n (-9999) 9999 = false) : capB (some n) = none := by simp [capB, h]
theorem flag_in (b : Bool) : inI (flagI b) (-9999) 9999 = true := by cases b <;> decide

/-- What the nodes ahead are worth, as it lies in memory: those below the whole. -/
def NumsTo (ns : List NodeD) (env : ByteArray → Option Int) (here : Int) (m : List Bool) (k : Nat) (cs : List Value) : Prop :=
  cs.length = ns.length ∧ ∀ j, j < k → m[j]? = some true → ∃ z, valN ns env here j = some z ∧ cs[j]? = some (.int .i64 z)
theorem numsTo_skip {ns : List NodeD} {env : ByteArray → Option Int} {here : Int} {m : List Bool} {k : Nat} {cs : List Value} (h : NumsTo ns env here m k cs) (hm : ¬ m[k]? = some true) : NumsTo ns env here m (k + 1) cs :=
  ⟨h.1, fun j hj hjm => by
    by_cases e : j = k
    · subst e; exact absurd hjm hm
    · exact h.2 j (by omega) hjm⟩
theorem numsTo_put {ns : List NodeD} {env : ByteArray → Option Int} {here : Int} {m : List Bool} {k : Nat} {cs : List Value} {z : Int} (hk : k < ns.length) (h : NumsTo ns env here m k cs) (hv : valN ns env here k = some z) : NumsTo ns env here m (k + 1) (cs.set k (.int .i64 z)) :=
  ⟨by rw [List.length_set]; exact h.1, fun j hj hjm => by
    by_cases e : j = k
    · subst e
      exact ⟨z, hv, by rw [List.getElem?_set_self (by rw [h.1]; exact hk)]⟩
    · obtain ⟨y, h1, h2⟩ := h.2 j (by omega) hjm
      exact ⟨y, h1, by rw [List.getElem?_set_ne (fun e' => e e'.symm)]; exact h2⟩⟩

theorem Tryd.infoInt4 : (Tryd.prog.info? 3).map (fun i => (i.zero, i.size, i.bytes)) = some (some (.int .i64 0), 1, 8) := by kernel_rfl
theorem own_int {B g n cap : Nat} {cs : List Value} {w : World} {k : Nat} {z : Int} (h : w.ownsRow B 3 1 (.slice (some ⟨g, 0, none⟩) n cap) n cs) (hz : cs[k]? = some (.int .i64 z)) : w.cell? ⟨g, k, none⟩ = some (.int .i64 z) := by
  have := h.cells (g := g) rfl k _ hz
  rwa [Addr.add_lit, Nat.zero_add] at this

set_option maxHeartbeats 6400000 in
set_option maxRecDepth 100000 in
theorem specEvalExpr_any (v u : Value) (ns : List NodeD) (xs : List VarD) (here : Int) (w : World) (hin : NIn ns) (hxl : xs.length ≤ 1048576) (h : NRow w v ns) (h' : VRow w u xs) :
    Calls Tryd.prog 13 #[.agg #[v], u, .int .i64 here] w fun e w' => e = .returned (optV (evalB ns (getB xs) here)) ∧ Below w.heap.size w w' := by
  obtain ⟨i0, hi, hz0, hz1, hz2⟩ := info_parts Tryd.infoInt4
  have HR : Hid (NRow w v ns) := h
  have HV : Hid (VRow w u xs) := h'
  have HIn : Hid (NIn ns) := hin
  obtain ⟨a, cap, rfl⟩ := h.slice
  obtain ⟨av, capv, rfl⟩ := h'.slice
  clear h h' hin
  have B0 : Hid (Below w.heap.size w (w.alloc (.cells #[.slice a ns.length cap] 26))) := (Below.refl _ _).alloc (Nat.le_refl _) _
  have E0 : Hid ((w.alloc (.cells #[.slice a ns.length cap] 26)).cell? ⟨w.heap.size, 0, none⟩ = some (.slice a ns.length cap)) := lit_one _ _ _
  cases hex : exprB ns with
  | false =>
    have HEx : Hid (∀ W, NRow W (.slice a ns.length cap) ns → _) := fun W => specExprOk_is (.slice a ns.length cap) ns false hex W HIn.out
    have HVal : Hid (evalB ns (getB xs) here = none) := by rw [Hid, evalB, hex]; rfl
    rw [HVal.out]
    clear hex
    go_enter Tryd.func13, Tryd.ntmps13
    go_wp2_with fail
    refine (HEx.out _ (HR.out.below B0.out)).mono ?_
    rintro e w1 ⟨rfl, hb1⟩
    have B1 : Hid (Below w.heap.size w w1) := B0.out.trans (hb1.mono B0.out.size)
    clear hb1
    go_wp2
    go_ret2
    exact ⟨rfl, B1.out⟩
  | true =>
    obtain ⟨⟨hl1, hl2⟩, hnode⟩ := exprB_at hex
    have HNd : Hid (∀ k (hk : k < ns.length), nodeB k ns[k] = true) := hnode
    have HEx : Hid (∀ W, NRow W (.slice a ns.length cap) ns → _) := fun W => specExprOk_is (.slice a ns.length cap) ns true hex W HIn.out
    have HMk : Hid (∀ W, NRow W (.slice a ns.length cap) ns → _) := fun W => l04Marks_any (.slice a ns.length cap) ns W hex
    have HNone : Hid (∀ (m : List Bool), Marks ns m → ∀ i, i < ns.length → m[i]? = some true → valN ns (getB xs) here i = none → evalB ns (getB xs) here = none) := fun m hm i hi => marks_none hex hm (getB xs) here (ns.length - 1 - i) i (by omega)
    have HLast : Hid (evalB ns (getB xs) here = valN ns (getB xs) here (ns.length - 1)) := evalB_val hex (getB xs) here
    have HEq : Hid (∀ i (hi : i < ns.length), valN ns (getB xs) here i = match allV (ns[i].kids.map fun k => valN ns (getB xs) here k.toNat) with
      | none => none
      | some vs => capB (nodeV (getB xs) here ns[i] vs)) := fun i hi => valN_eq hnode (getB xs) here i hi
    have HSm : Hid (∀ i z, i < ns.length → valN ns (getB xs) here i = some z → small z) := fun i z hi hv => valN_small hnode hi hv
    clear hex hnode
    go_enter Tryd.func13, Tryd.ntmps13
    go_wp2_with fail
    refine (HEx.out _ (HR.out.below B0.out)).mono ?_
    rintro e w1 ⟨rfl, hb1⟩
    have B1 : Hid (Below w.heap.size w w1) := B0.out.trans (hb1.mono B0.out.size)
    have hE1 := cell_keep E0.out hb1
    clear hb1 E0 B0 HEx
    go_wp2_with fail
    refine (HMk.out _ (HR.out.below B1.out)).mono ?_
    rintro e w2 ⟨g, m, rfl, hom, hmk, hb2⟩
    have B2 : Hid (Below w.heap.size w w2) := B1.out.trans (hb2.mono B1.out.size)
    have hE2 := cell_keep hE1 hb2
    have HE2 : Hid (w2.cell? ⟨w.heap.size, 0, none⟩ = some (.slice a ns.length cap)) := hE2
    have HOm : Hid (OwnF w1.heap.size (.slice (some ⟨g, 0, none⟩) ns.length ns.length) m w2) := hom
    have HMs : Hid (Marks ns m) := hmk
    have hml : m.length = ns.length := hmk.1
    clear hb2 hE1 hom hmk HMk
    go_wp2_with (at_make; refine wpList_make_full _ rfl _ _ 30 rfl w2.heap.size 3 i0 _ 1 Tryd.underlying30 hi hz0 hz1 .i64 .i64 _ _ ns.length rfl rfl rfl rfl (by rw [hz2]; omega) (by unfold maxLen; omega) (Nat.le_refl _) ?_; intro w3 hown hg3)
    have HO3 : Hid (w3.ownsRow w2.heap.size 3 1 (.slice (some ⟨w2.heap.size, 0, none⟩) ns.length ns.length) ns.length (madeCells (Value.int .i64 0).cells (ns.length * 1)).toList) := hown
    have HN3 : Hid (NumsTo ns (getB xs) here m 0 (madeCells (Value.int .i64 0).cells (ns.length * 1)).toList) := ⟨by rw [hown.1]; omega, fun j hj => by omega⟩
    have B3 : Hid (Below w2.heap.size w2 w3) := (Below.refl _ _).grown hg3 (Nat.le_refl _) (fun k h => by cases h)
    clear hown hg3 hE2
    go_wp2
    go_loopw [10] (fun iv wr => ∃ (k : Nat) (cs : List Value), iv = .int .i64 k ∧ k ≤ ns.length ∧ NumsTo ns (getB xs) here m k cs ∧ wr.ownsRow w2.heap.size 3 1 (.slice (some ⟨w2.heap.size, 0, none⟩) ns.length ns.length) ns.length cs ∧ Below w2.heap.size w2 wr) (fun iv _ => ns.length - (intOf iv).toNat)
    case atStart => exact ⟨0, _, rfl, Nat.zero_le _, HN3.out, HO3.out, B3.out⟩
    case round =>
      obtain ⟨k, cs, rfl, hk, hnt, hown, hbw⟩ := hrel
      have HNt : Hid (NumsTo ns (getB xs) here m k cs) := hnt
      have HOr : Hid (wr.ownsRow w2.heap.size 3 1 (.slice (some ⟨w2.heap.size, 0, none⟩) ns.length ns.length) ns.length cs) := hown
      have HBr : Hid (Below w2.heap.size w2 wr) := hbw
      have HB : Hid (Below w.heap.size w wr) := B2.out.trans (hbw.mono B2.out.size)
      have hE := cell_keep HE2.out hbw
      clear hnt hown hbw
      by_cases hlt : k < ns.length
      · obtain ⟨b, off, kv, rfl, n0, n1, n2, n3, hI⟩ := (HR.out.below HB.out).at hlt
        obtain ⟨hcm, _⟩ := (HOm.out.below HBr.out).at (k := k) (by omega)
        have HNk : Hid (nodeB k ns[k] = true) := HNd.out k hlt
        have HEk := HEq.out k hlt
        have HPut : Hid (∀ z, valN ns (getB xs) here k = some z → NumsTo ns (getB xs) here m (k + 1) (cs.set k (.int .i64 z))) := fun z hz => numsTo_put hlt HNt.out hz
        have HMark : Hid (m[k]? = some m[k]) := List.getElem?_eq_getElem (by omega)
        have HKids : Hid (m[k]? = some true → ∀ q ∈ ns[k].kids, m[q.toNat]? = some true) := fun h => HMs.out.2.2.1 k hlt h
        have hsto := own_cell HOr.out k (by omega)
        obtain ⟨X, hX⟩ : ∃ X, ns[k] = X := ⟨_, rfl⟩
        rw [hX] at n0 n1 n2 hI HNk HEk HKids
        have HEk' : Hid (_) := HEk
        clear hX HEk
        obtain ⟨op, num, name, kids⟩ := X
        obtain ⟨ak, ck, rfl⟩ := hI.slice
        have i4 : (k : Int) < (ns.length : Int) := by omega
        have BW : Hid (Below wr.heap.size wr (wr.alloc (.cells #[.int .i64 op, .int .i64 num, .string name, .slice ak kids.length ck] 35))) := (Below.refl _ _).alloc (Nat.le_refl _) _
        have HIb : Hid (IRow (wr.alloc (.cells #[.int .i64 op, .int .i64 num, .string name, .slice ak kids.length ck] 35)) (.slice ak kids.length ck) kids) := hI.below BW.out
        have HBb : Hid (Below w.heap.size w (wr.alloc (.cells #[.int .i64 op, .int .i64 num, .string name, .slice ak kids.length ck] 35))) := HB.out.trans (BW.out.mono HB.out.size)
        have HB2b : Hid (Below w2.heap.size w2 (wr.alloc (.cells #[.int .i64 op, .int .i64 num, .string name, .slice ak kids.length ck] 35))) := HBr.out.trans (BW.out.mono HBr.out.size)
        have HOb : Hid ((wr.alloc (.cells #[.int .i64 op, .int .i64 num, .string name, .slice ak kids.length ck] 35)).ownsRow w2.heap.size 3 1 (.slice (some ⟨w2.heap.size, 0, none⟩) ns.length ns.length) ns.length cs) := World.ownsRow.alloc HOr.out _
        have hEb := cell_keep hE BW.out
        have hcmb := cell_keep hcm BW.out
        have hL := lit_four wr (.int .i64 op) (.int .i64 num) (.string name) (.slice ak kids.length ck) 35
        clear hI BW HOr HBr HB
        obtain ⟨cw, hcw, hfw⟩ := own_cell HOb.out k (by omega)
        cases hmk : m[k] with
        | false =>
          have HS : Hid (NumsTo ns (getB xs) here m (k + 1) cs) := numsTo_skip HNt.out (by rw [HMark.out, hmk]; simp)
          rw [hmk] at hcmb
          clear hmk HMark hsto hcm hL
          go_wp2
          go_roundw
          case rel => exact ⟨k + 1, cs, by go_num, by omega, HS.out, HOb.out, HB2b.out⟩
          case measure => simp [intOf]; omega
        | true =>
          have HMt : Hid (m[k]? = some true) := by rw [Hid, HMark.out, hmk]
          rw [hmk] at hcmb
          have HNo0 : Hid (valN ns (getB xs) here k = none → evalB ns (getB xs) here = none) := HNone.out m HMs.out k hlt HMt.out
          clear hmk HMark hsto hcm hL
          by_cases o1 : op = 1
          · have hkn := kids_no HNk.out (.inl o1)
            have hnf := num_fine HNk.out o1
            have hval : valN ns (getB xs) here k = some num := by
              rw [HEk'.out]
              simp only at hkn
              simp only [hkn, List.map_nil, allV, nodeV, if_pos o1]
              exact capB_yes (by simp only [inI, decide_eq_true_eq]; simp only at hnf; omega)
            simp only at hnf
            subst o1
            have HQ : Hid (∀ W, _) := in_is (num) (-9999) 9999 true (by simp only [decide_eq_true_eq]; omega)
            have HPt : Hid (NumsTo ns (getB xs) here m (k + 1) (cs.set k (.int .i64 num))) := HPut.out _ hval
            have HSt : Hid (((wr.alloc (.cells #[.int .i64 1, .int .i64 num, .string name, .slice ak kids.length ck] 35)).setCell ⟨w2.heap.size, k, none⟩ (.int .i64 num)).ownsRow w2.heap.size 3 1 (.slice (some ⟨w2.heap.size, 0, none⟩) ns.length ns.length) ns.length (cs.set k (.int .i64 num))) := (World.ownsRow.stored HOb.out k (.int .i64 num)).1
            have HBs : Hid (Below w2.heap.size w2 ((wr.alloc (.cells #[.int .i64 1, .int .i64 num, .string name, .slice ak kids.length ck] 35)).setCell ⟨w2.heap.size, k, none⟩ (.int .i64 num))) := HB2b.out.setCell (Nat.le_refl _) _
            clear hval hkn
            go_wp2_with fail
            refine (HQ.out _).mono ?_
            rintro e wq ⟨rfl, hw⟩
            rw [hw]
            clear hw wq
            go_wp2
            go_roundw
            case rel => exact ⟨k + 1, _, by go_num, by omega, HPt.out, HSt.out, HBs.out⟩
            case measure => simp [intOf]; omega
          by_cases o2 : op = 2
          · have hkn := kids_no HNk.out (.inr (.inl o2))
            simp only at hkn
            have HVb : Hid (VRow (wr.alloc (.cells #[.int .i64 op, .int .i64 num, .string name, .slice ak kids.length ck] 35)) (.slice av xs.length capv) xs) := HV.out.below HBb.out
            have hv0 : valN ns (getB xs) here k = capB (getB xs name) := by
              rw [HEk'.out]
              simp only [hkn, List.map_nil, allV, nodeV, if_neg o1, if_pos o2]
            subst o2
            have HG : Hid (∀ W, VRow W (.slice av xs.length capv) xs → _) := fun W hv => specEnvGet_any (.slice av xs.length capv) xs name W hxl hv
            cases hgv : getB xs name with
            | none =>
              have HNo : Hid (evalB ns (getB xs) here = none) := HNo0.out (by rw [hv0, hgv]; rfl)
              have hgg : getVal xs name = .tuple #[.int .i64 0, .bool false] := by unfold getVal; rw [hgv]
              rw [hgg] at HG
              clear hv0 hgv hgg hkn
              go_wp2_with fail
              refine (HG.out _ HVb.out).mono ?_
              rintro e wq ⟨rfl, hw⟩
              rw [hw]
              clear hw wq
              go_wp2
              go_ret2
              rw [HNo.out]
              exact ⟨rfl, HBb.out⟩
            | some z =>
              have hgg : getVal xs name = .tuple #[.int .i64 z, .bool true] := by unfold getVal; rw [hgv]
              rw [hgg] at HG
              cases hzi : inI z (-9999) 9999 with
              | false =>
                have HNo : Hid (evalB ns (getB xs) here = none) := HNo0.out (by rw [hv0, hgv, capB_no hzi])
                have HQ : Hid (∀ W, _) := in_is (z) (-9999) 9999 false hzi
                clear hv0 hgv hgg hzi hkn
                go_wp2_with fail
                refine (HG.out _ HVb.out).mono ?_
                rintro e wq ⟨rfl, hw⟩
                rw [hw]
                clear hw wq
                go_wp2_with fail
                refine (HQ.out _).mono ?_
                rintro e wq ⟨rfl, hw⟩
                rw [hw]
                clear hw wq
                go_wp2
                go_ret2
                rw [HNo.out]
                exact ⟨rfl, HBb.out⟩
              | true =>
                have hval : valN ns (getB xs) here k = some z := by rw [hv0, hgv, capB_yes hzi]
                have HQ : Hid (∀ W, _) := in_is (z) (-9999) 9999 true hzi
                have HPt : Hid (NumsTo ns (getB xs) here m (k + 1) (cs.set k (.int .i64 z))) := HPut.out _ hval
                have HSt : Hid (((wr.alloc (.cells #[.int .i64 2, .int .i64 num, .string name, .slice ak kids.length ck] 35)).setCell ⟨w2.heap.size, k, none⟩ (.int .i64 z)).ownsRow w2.heap.size 3 1 (.slice (some ⟨w2.heap.size, 0, none⟩) ns.length ns.length) ns.length (cs.set k (.int .i64 z))) := (World.ownsRow.stored HOb.out k (.int .i64 z)).1
                have HBs : Hid (Below w2.heap.size w2 ((wr.alloc (.cells #[.int .i64 2, .int .i64 num, .string name, .slice ak kids.length ck] 35)).setCell ⟨w2.heap.size, k, none⟩ (.int .i64 z))) := HB2b.out.setCell (Nat.le_refl _) _
                clear hv0 hgv hgg hzi hkn hval
                go_wp2_with fail
                refine (HG.out _ HVb.out).mono ?_
                rintro e wq ⟨rfl, hw⟩
                rw [hw]
                clear hw wq
                go_wp2_with fail
                refine (HQ.out _).mono ?_
                rintro e wq ⟨rfl, hw⟩
                rw [hw]
                clear hw wq
                go_wp2
                go_roundw
                case rel => exact ⟨k + 1, _, by go_num, by omega, HPt.out, HSt.out, HBs.out⟩
                case measure => simp [intOf]; omega
          by_cases o3 : op = 3
          · have hkn := kids_no HNk.out (.inr (.inr o3))
            simp only at hkn
            have hv0 : valN ns (getB xs) here k = capB (some here) := by
              rw [HEk'.out]
              simp only [hkn, List.map_nil, allV, nodeV, if_neg o1, if_neg o2, if_pos o3]
            subst o3
            cases hzi : inI here (-9999) 9999 with
            | false =>
              have HNo : Hid (evalB ns (getB xs) here = none) := HNo0.out (by rw [hv0, capB_no hzi])
              have HQ : Hid (∀ W, _) := in_is (here) (-9999) 9999 false hzi
              clear hv0 hzi hkn
              go_wp2_with fail
              refine (HQ.out _).mono ?_
              rintro e wq ⟨rfl, hw⟩
              rw [hw]
              clear hw wq
              go_wp2
              go_ret2
              rw [HNo.out]
              exact ⟨rfl, HBb.out⟩
            | true =>
              have hval : valN ns (getB xs) here k = some here := by rw [hv0, capB_yes hzi]
              have HQ : Hid (∀ W, _) := in_is (here) (-9999) 9999 true hzi
              have HPt : Hid (NumsTo ns (getB xs) here m (k + 1) (cs.set k (.int .i64 here))) := HPut.out _ hval
              have HSt : Hid (((wr.alloc (.cells #[.int .i64 3, .int .i64 num, .string name, .slice ak kids.length ck] 35)).setCell ⟨w2.heap.size, k, none⟩ (.int .i64 here)).ownsRow w2.heap.size 3 1 (.slice (some ⟨w2.heap.size, 0, none⟩) ns.length ns.length) ns.length (cs.set k (.int .i64 here))) := (World.ownsRow.stored HOb.out k (.int .i64 here)).1
              have HBs : Hid (Below w2.heap.size w2 ((wr.alloc (.cells #[.int .i64 3, .int .i64 num, .string name, .slice ak kids.length ck] 35)).setCell ⟨w2.heap.size, k, none⟩ (.int .i64 here))) := HB2b.out.setCell (Nat.le_refl _) _
              clear hv0 hzi hkn hval
              go_wp2_with fail
              refine (HQ.out _).mono ?_
              rintro e wq ⟨rfl, hw⟩
              rw [hw]
              clear hw wq
              go_wp2
              go_roundw
              case rel => exact ⟨k + 1, _, by go_num, by omega, HPt.out, HSt.out, HBs.out⟩
              case measure => simp [intOf]; omega
          by_cases o11 : op = 11
          · obtain ⟨q, hkq, hqk⟩ := kids_one HNk.out o11
            simp only at hkq
            obtain ⟨z, hz1, hz2⟩ := HNt.out.2 q hqk (by have := HKids.out HMt.out (q : Int) (by simp [hkq]); simpa using this)
            have hop1 := o11
            have hv0 : valN ns (getB xs) here k = capB (some (flagI (decide (z = 0)))) := by
              rw [HEk'.out]
              simp only [hkq, List.map_cons, List.map_nil, Int.toNat_natCast, hz1, allV, Option.map_some, nodeV, if_neg o1, if_neg o2, if_neg o3, if_pos o11, List.getD_cons_zero]
            subst hop1
            have hl0 : 0 < kids.length := by rw [hkq]; simp
            have hk0 : kids[0] = (q : Int) := by simp [hkq]
            obtain ⟨bk, offk, rfl, hck⟩ := HIb.out.at hl0
            rw [hk0, Nat.add_zero] at hck
            have hl0' : (0 : Int) < (kids.length : Int) := by omega
            clear hkq hk0 hl0
            have hzc := own_int HOb.out hz2
            have hq4 : (q : Int) < (ns.length : Int) := by omega
            have HFl : Hid (∀ (c : Bool) (W : World), _) := fun c W => flag_any c W
            by_cases hzz : z = 0
            · have hval : valN ns (getB xs) here k = some 1 := by rw [hv0, capB_yes (flag_in _)]; simp [hzz, flagI]
              have hf1 : flagI true = 1 := rfl
              have HQ : Hid (∀ W, _) := in_is (1) (-9999) 9999 true (by decide)
              have HPt : Hid (NumsTo ns (getB xs) here m (k + 1) (cs.set k (.int .i64 1))) := HPut.out _ hval
              have HSt : Hid (((wr.alloc (.cells #[.int .i64 11, .int .i64 num, .string name, .slice (some ⟨bk, offk, none⟩) kids.length ck] 35)).setCell ⟨w2.heap.size, k, none⟩ (.int .i64 1)).ownsRow w2.heap.size 3 1 (.slice (some ⟨w2.heap.size, 0, none⟩) ns.length ns.length) ns.length (cs.set k (.int .i64 1))) := (World.ownsRow.stored HOb.out k (.int .i64 1)).1
              have HBs : Hid (Below w2.heap.size w2 ((wr.alloc (.cells #[.int .i64 11, .int .i64 num, .string name, .slice (some ⟨bk, offk, none⟩) kids.length ck] 35)).setCell ⟨w2.heap.size, k, none⟩ (.int .i64 1))) := HB2b.out.setCell (Nat.le_refl _) _
              clear hv0 hval hz1 hz2
              go_wp2_with fail
              refine (HFl.out _ _).mono ?_
              rintro e wq ⟨rfl, hw⟩
              rw [hw]
              clear hw wq
              go_wp2_with fail
              refine (HQ.out _).mono ?_
              rintro e wq ⟨rfl, hw⟩
              rw [hw]
              clear hw wq
              go_wp2
              go_roundw
              case rel => exact ⟨k + 1, _, by go_num, by omega, HPt.out, HSt.out, HBs.out⟩
              case measure => simp [intOf]; omega
            · have hval : valN ns (getB xs) here k = some 0 := by rw [hv0, capB_yes (flag_in _)]; simp [hzz, flagI]
              have hf0 : flagI false = 0 := rfl
              have HQ : Hid (∀ W, _) := in_is (0) (-9999) 9999 true (by decide)
              have HPt : Hid (NumsTo ns (getB xs) here m (k + 1) (cs.set k (.int .i64 0))) := HPut.out _ hval
              have HSt : Hid (((wr.alloc (.cells #[.int .i64 11, .int .i64 num, .string name, .slice (some ⟨bk, offk, none⟩) kids.length ck] 35)).setCell ⟨w2.heap.size, k, none⟩ (.int .i64 0)).ownsRow w2.heap.size 3 1 (.slice (some ⟨w2.heap.size, 0, none⟩) ns.length ns.length) ns.length (cs.set k (.int .i64 0))) := (World.ownsRow.stored HOb.out k (.int .i64 0)).1
              have HBs : Hid (Below w2.heap.size w2 ((wr.alloc (.cells #[.int .i64 11, .int .i64 num, .string name, .slice (some ⟨bk, offk, none⟩) kids.length ck] 35)).setCell ⟨w2.heap.size, k, none⟩ (.int .i64 0))) := HB2b.out.setCell (Nat.le_refl _) _
              clear hv0 hval hz1 hz2
              go_wp2_with fail
              refine (HFl.out _ _).mono ?_
              rintro e wq ⟨rfl, hw⟩
              rw [hw]
              clear hw wq
              rw [show flagI (z == 0) = 0 by simp [hzz, flagI]]
              go_wp2_with fail
              refine (HQ.out _).mono ?_
              rintro e wq ⟨rfl, hw⟩
              rw [hw]
              clear hw wq
              go_wp2
              go_roundw
              case rel => exact ⟨k + 1, _, by go_num, by omega, HPt.out, HSt.out, HBs.out⟩
              case measure => simp [intOf]; omega
          obtain ⟨q, r, hkq, hqk, hrk, h4⟩ := kids_two HNk.out o1 o2 o3 o11
          simp only at hkq h4
          obtain ⟨z, hz1, hz2⟩ := HNt.out.2 q hqk (by have := HKids.out HMt.out (q : Int) (by simp [hkq]); simpa using this)
          obtain ⟨y, hy1, hy2⟩ := HNt.out.2 r hrk (by have := HKids.out HMt.out (r : Int) (by simp [hkq]); simpa using this)
          have hv0 : valN ns (getB xs) here k = capB (twoB op z y) := by
            rw [HEk'.out]
            simp only [hkq, List.map_cons, List.map_nil, Int.toNat_natCast, hz1, hy1, allV, Option.map_some, nodeV, if_neg o1, if_neg o2, if_neg o3, if_neg o11, List.getD_cons_zero, List.getD_cons_succ]
          have hl1 : 1 < kids.length := by rw [hkq]; simp
          have hk0 : kids[0] = (q : Int) := by simp [hkq]
          have hk1 : kids[1] = (r : Int) := by simp [hkq]
          obtain ⟨bk, offk, rfl, hck⟩ := HIb.out.at (k := 0) (by omega)
          obtain ⟨bk', offk', e, hck'⟩ := HIb.out.at hl1
          cases e
          rw [hk0, Nat.add_zero] at hck
          rw [hk1] at hck'
          have hzc := own_int HOb.out hz2
          have hyc := own_int HOb.out hy2
          have hl0' : (0 : Int) < (kids.length : Int) := by omega
          have hl1' : (1 : Int) < (kids.length : Int) := by omega
          have hq4 : (q : Int) < (ns.length : Int) := by omega
          have hr4 : (r : Int) < (ns.length : Int) := by omega
          have HTw : Hid (∀ W, _) := fun W => l04Two_any op z y W h4 (HSm.out q z (by omega) hz1) (HSm.out r y (by omega) hy1)
          have hLx := lit_four wr (.int .i64 op) (.int .i64 num) (.string name) (.slice (some ⟨bk, offk, none⟩) kids.length ck) 35
          clear hkq hk0 hk1 hl1 hz1 hz2 hy1 hy2 h4 HIb HNk HEk' HKids HIn HR HV
          go_wp2
          generalize hWB : (wr.alloc (.cells #[.int .i64 op, .int .i64 num, .string name, .slice (some ⟨bk, offk, none⟩) kids.length ck] 35)) = WB at *
          clear hWB
          generalize wr.heap.size = H at *
          obtain ⟨x0, x1, x2, x3⟩ := hLx
          cases htw : twoB op z y with
          | none =>
            have HNo : Hid (evalB ns (getB xs) here = none) := HNo0.out (by rw [hv0, htw]; rfl)
            rw [htw] at HTw
            have hov : optV none = .tuple #[.int .i64 0, .bool false] := rfl
            rw [hov] at HTw
            clear hv0 htw hov
            go_big_quiet (first
              | (go_at_call 40; refine Calls.quiet_of_same (HTw.out _)))
            go_wp2
            go_ret2
            rw [HNo.out]
            exact ⟨rfl, bel_drewN HBb.out nq⟩
          | some t =>
            rw [htw] at HTw
            have hov : optV (some t) = .tuple #[.int .i64 t, .bool true] := rfl
            rw [hov] at HTw
            cases hzi : inI t (-9999) 9999 with
            | false =>
              have HNo : Hid (evalB ns (getB xs) here = none) := HNo0.out (by rw [hv0, htw, capB_no hzi])
              have HQ : Hid (∀ W, _) := in_is t (-9999) 9999 false hzi
              clear hv0 htw hov hzi
              go_big_quiet (first
                | (go_at_call 40; refine Calls.quiet_of_same (HTw.out _)))
              have HBd : Hid (Below w.heap.size w (WB.drewN nq)) := bel_drewN HBb.out nq
              go_wp2_with fail
              refine (HQ.out _).mono ?_
              rintro e wq ⟨rfl, hw⟩
              rw [hw]
              clear hw wq
              go_wp2
              go_ret2
              rw [HNo.out]
              exact ⟨rfl, HBd.out⟩
            | true =>
              have hval : valN ns (getB xs) here k = some t := by rw [hv0, htw, capB_yes hzi]
              have HQ : Hid (∀ W, _) := in_is t (-9999) 9999 true hzi
              clear hv0 htw hov hzi
              go_big_quiet (first
                | (go_at_call 40; refine Calls.quiet_of_same (HTw.out _)))
              have HOd : Hid ((WB.drewN nq).ownsRow w2.heap.size 3 1 (.slice (some ⟨w2.heap.size, 0, none⟩) ns.length ns.length) ns.length cs) := HOb.out
              have HB2d : Hid (Below w2.heap.size w2 (WB.drewN nq)) := bel_drewN HB2b.out nq
              have hcd : (WB.drewN nq).cell? ⟨w2.heap.size, k, none⟩ = some cw := hcw
              have hfd : (WB.drewN nq).frozen? ⟨w2.heap.size, k, none⟩ = false := hfw
              clear hcw hfw HOb HB2b HBb
              generalize WB.drewN nq = WD at *
              have HPt : Hid (NumsTo ns (getB xs) here m (k + 1) (cs.set k (.int .i64 t))) := HPut.out _ hval
              have HSt : Hid ((WD.setCell ⟨w2.heap.size, k, none⟩ (.int .i64 t)).ownsRow w2.heap.size 3 1 (.slice (some ⟨w2.heap.size, 0, none⟩) ns.length ns.length) ns.length (cs.set k (.int .i64 t))) := (World.ownsRow.stored HOd.out k (.int .i64 t)).1
              have HBs : Hid (Below w2.heap.size w2 (WD.setCell ⟨w2.heap.size, k, none⟩ (.int .i64 t))) := HB2d.out.setCell (Nat.le_refl _) _
              clear hval
              go_wp2_with fail
              refine (HQ.out _).mono ?_
              rintro e wq ⟨rfl, hw⟩
              rw [hw]
              clear hw wq
              go_wp2
              go_roundw
              case rel => exact ⟨k + 1, _, by go_num, by omega, HPt.out, HSt.out, HBs.out⟩
              case measure => simp [intOf]; omega
      · obtain rfl : k = ns.length := by omega
        obtain ⟨z, hz1, hz2⟩ := HNt.out.2 (ns.length - 1) (by omega) HMs.out.2.1
        have HVl : Hid (evalB ns (getB xs) here = some z) := by rw [Hid, HLast.out, hz1]
        have hzc := own_int HOr.out hz2
        have i1 : IntKind.i64.wrap ((ns.length : Int) - 1) = ((ns.length - 1 : Nat) : Int) := by rw [IntKind.wrap_i64]; omega
        have i2 : ((ns.length - 1 : Nat) : Int) < (ns.length : Int) := by omega
        have i4 : ¬ (ns.length : Int) < (ns.length : Int) := by omega
        clear hz1 hz2
        go_wp2
        go_ret2
        rw [HVl.out]
        exact ⟨rfl, HB.out⟩

end Go.Proofs.YtanmhbopalchoaaDoor
