/- The specification's l04Size: how great an expression is when it is written out, 201 at most. -/
/- The program's partsOf and ExprOk. -/
/- What a type assertion gives: each kind of part held against each. -/
/- The names of an expression, collected, sorted, each once: the specification's list. The plain mathematics. -/
import Derived.Test.YtofpoiccghpliaaGreatDoorXKit2
import Derived.Test.YtofpoiccghpliaaGreatDoorXPart
import Derived.Test.YtofpoiccghpliaaGreatDoorProg
import Derived.Test.YtofpoiccghpliaaGreatDoorXFree
import Derived.Test.YtofpoiccghpliaaGreatDoorEnvAsc
import Derived.Laws.OwnMore
import Derived.Maps.AppendAt
import Derived.WalkKit
import Derived.Lib.SlicesCompact
import Derived.Sort.Walk0
namespace Go.Proofs.YtofpoiccghpliaaGreatDoor
open Go.RowKit

def capI (n : Int) : Int := if 201 < n then 201 else n
def sumK (sz : List Int) (ks : List Int) : Int := ks.foldl (fun n k => n + sz.getD k.toNat 0) 1
def sizesF (ns : List NodeD) : List Int := ns.foldl (fun sz x => sz ++ [capI (sumK sz x.kids)]) []
def sizeB (ns : List NodeD) : Int := (sizesF ns).getD (ns.length - 1) 0
theorem sumK_next (sz ks : List Int) (j : Nat) (h : j < ks.length) : sumK sz (ks.take (j + 1)) = sumK sz (ks.take j) + sz.getD ks[j].toNat 0 := by
  rw [List.take_succ_eq_append_getElem h, sumK, List.foldl_append]
  rfl
theorem sizesF_next (ns : List NodeD) (k : Nat) (h : k < ns.length) : sizesF (ns.take (k + 1)) = sizesF (ns.take k) ++ [capI (sumK (sizesF (ns.take k)) ns[k].kids)] := by
  rw [List.take_succ_eq_append_getElem h, sizesF, List.foldl_append]
  rfl
theorem sizesF_len (ns : List NodeD) : ∀ k, k ≤ ns.length → (sizesF (ns.take k)).length = k
  | 0, _ => rfl
  | k + 1, h => by rw [sizesF_next ns k (by omega), List.length_append, sizesF_len ns k (by omega)]; rfl
theorem getD_in {sz : List Int} (h : ∀ z ∈ sz, 1 ≤ z ∧ z ≤ 201) (k : Nat) : 0 ≤ sz.getD k 0 ∧ sz.getD k 0 ≤ 201 := by
  rw [List.getD_eq_getElem?_getD]
  by_cases hk : k < sz.length
  · rw [List.getElem?_eq_getElem hk]
    have := h _ (List.getElem_mem hk)
    exact ⟨by show 0 ≤ sz[k]; omega, this.2⟩
  · rw [List.getElem?_eq_none (by omega)]
    exact ⟨by decide, by decide⟩
theorem sumK_in {sz : List Int} (h : ∀ z ∈ sz, 1 ≤ z ∧ z ≤ 201) (ks : List Int) : ∀ j, j ≤ ks.length → 1 ≤ sumK sz (ks.take j) ∧ sumK sz (ks.take j) ≤ 1 + 201 * j
  | 0, _ => by rw [List.take_zero]; exact ⟨by show (1 : Int) ≤ 1; omega, by show (1 : Int) ≤ _; omega⟩
  | j + 1, hj => by
    have ih := sumK_in h ks j (by omega)
    have g := getD_in h ks[j].toNat
    rw [sumK_next sz ks j (by omega)]
    omega
theorem sizesF_in (ns : List NodeD) : ∀ k, k ≤ ns.length → ∀ z ∈ sizesF (ns.take k), 1 ≤ z ∧ z ≤ 201
  | 0, _, z, hz => by cases hz
  | k + 1, h, z, hz => by
    have ih := sizesF_in ns k (by omega)
    rw [sizesF_next ns k (by omega)] at hz
    rcases List.mem_append.1 hz with hz | hz
    · exact ih z hz
    · obtain rfl : z = _ := List.mem_singleton.1 hz
      have := sumK_in ih ns[k].kids ns[k].kids.length (Nat.le_refl _)
      rw [List.take_of_length_le (Nat.le_refl _)] at this
      unfold capI
      split <;> omega
theorem one_cellZ (z : Int) : ∀ u ∈ [Value.int .i64 z], u.oneCell' = true := by
  intro u hu
  obtain rfl : u = .int .i64 z := by simpa using hu
  rfl
theorem ownZ_snoc {B : Nat} {o v' : Value} {ys : List Int} {x : Int} {wr w2 : World} {ob : Obj} (hown2 : w2.ownsRow B 3 1 v' (ys.length + 1) (zv ys ++ [.int .i64 x])) (hown : OwnZ B o ys wr) (hgrow : (wr.alloc ob).grownBy w2 o.ownBlock)
    {w : World} (hw : B = w.heap.size) (hb : Below w.heap.size w wr) : OwnZ B v' (ys ++ [x]) w2 ∧ Below w.heap.size w w2 := by
  subst hw
  refine ⟨?_, ?_⟩
  · rw [OwnZ, List.length_append, zv, List.map_append]
    exact hown2
  · exact (hb.alloc hb.size ob).grown hgrow (by have := hb.size; simp; omega) (fun k hk => (World.ownsRow.lt hown k hk).1)

end Go.Proofs.YtofpoiccghpliaaGreatDoor

namespace Go.Proofs.YtofpoiccghpliaaGreatDoor
open Go.RowKit

/-- A row of parts. -/
def PRow (w : World) (v : Value) (ns : List NodeD) : Prop :=
  ∃ a cap, v = .slice a ns.length cap ∧ (a = none → cap = 0) ∧ (0 < ns.length → ∃ b off, a = some ⟨b, off, none⟩ ∧ b < w.heap.size ∧
    ∀ i (h : i < ns.length), w.cell? ⟨b, off + i, none⟩ = some (partV ns[i]))
theorem PRow.slice {w : World} {v : Value} {ns : List NodeD} (h : PRow w v ns) : ∃ a cap, v = .slice a ns.length cap := by
  obtain ⟨a, cap, rfl, _⟩ := h
  exact ⟨a, cap, rfl⟩
theorem PRow.below {w w' : World} {v : Value} {ns : List NodeD} (h : PRow w v ns) (hb : Below w.heap.size w w') : PRow w' v ns := by
  obtain ⟨a, cap, rfl, hcap, hh⟩ := h
  refine ⟨a, cap, rfl, hcap, fun h0 => ?_⟩
  obtain ⟨b, off, rfl, hlt, hc⟩ := hh h0
  exact ⟨b, off, rfl, Nat.lt_of_lt_of_le hlt hb.size, fun i hi => (World.cell?_of_block (hb.block b hlt)).trans (hc i hi)⟩
theorem PRow.at {w : World} {a : Option Addr} {n cap k : Nat} {ns : List NodeD} (h : PRow w (.slice a n cap) ns) (hk : k < ns.length) :
    ∃ b off, a = some ⟨b, off, none⟩ ∧ w.cell? ⟨b, off + k, none⟩ = some (partV ns[k]) := by
  obtain ⟨a', cap', e, _, hh⟩ := h
  cases e
  obtain ⟨b, off, rfl, _, hc⟩ := hh (by omega)
  exact ⟨b, off, rfl, hc k hk⟩
def OwnP (B : Nat) (v : Value) (ns : List NodeD) (w : World) : Prop := w.ownsRow B 168 1 v ns.length (ns.map partV)
theorem OwnP.row {B : Nat} {v : Value} {ns : List NodeD} {w : World} (h : OwnP B v ns w) : PRow w v ns := by
  rcases h.2 with ⟨rfl, h0⟩ | ⟨g, cap, cur, rfl, hg, hh, hnc, hcp, hcs, htake⟩
  · exact ⟨none, 0, by rw [h0], fun _ => rfl, fun h => by omega⟩
  · refine ⟨some ⟨g, 0, none⟩, cap, rfl, (by intro h; cases h), fun _ => ⟨g, 0, rfl, (Array.getElem?_eq_some_iff.1 hh).1, fun i hi => ?_⟩⟩
    rw [Nat.zero_add, World.ownsRow.cellAt h i (by omega)]
    simp [hi]
theorem OwnP.below {B : Nat} {v : Value} {ns : List NodeD} {w w' : World} (h : OwnP B v ns w) (hb : Below w.heap.size w w') : OwnP B v ns w' := own_below h hb
theorem partV_iface (x : NodeD) : ∃ t v, partV x = .iface t v := by
  unfold partV
  split
  · exact ⟨_, _, rfl⟩
  · split
    · exact ⟨_, _, rfl⟩
    · split
      · exact ⟨_, _, rfl⟩
      · split
        · exact ⟨_, _, rfl⟩
        · exact ⟨_, _, rfl⟩
theorem one_cellP (t : TypeId) (x : Value) : ∀ u ∈ [Value.iface t x], u.oneCell' = true := by
  intro u hu
  obtain rfl : u = .iface t x := by simpa using hu
  rfl
theorem Tryz.infoPart : (Tryz.prog.info? 168).map (fun i => (i.zero, i.size, i.bytes)) = some (some .nilIface, 1, 16) := by kernel_rfl
theorem ownP_snoc {B : Nat} {o v' : Value} {ns zs : List NodeD} {k : Nat} (hk : k < ns.length) (hz : ns.take k = zs) {t : TypeId} {x : Value} (hx : partV ns[k] = .iface t x) {wr w2 : World} {ob : Obj} (hown2 : w2.ownsRow B 168 1 v' (zs.length + 1) (zs.map partV ++ [.iface t x])) (hown : OwnP B o zs wr) (hgrow : (wr.alloc ob).grownBy w2 o.ownBlock)
    {w : World} (hw : B = w.heap.size) (hb : Below w.heap.size w wr) : OwnP B v' (ns.take (k + 1)) w2 ∧ Below w.heap.size w w2 := by
  subst hw
  refine ⟨?_, ?_⟩
  · rw [OwnP, List.take_succ_eq_append_getElem hk, hz, List.length_append, List.map_append, List.map_singleton, hx]
    exact hown2
  · exact (hb.alloc hb.size ob).grown hgrow (by have := hb.size; simp; omega) (fun k hk => (World.ownsRow.lt hown k hk).1)
theorem exprB_len {ns : List NodeD} (h : ¬ (1 ≤ ns.length ∧ ns.length ≤ 20)) : exprB ns = false := by
  cases hx : exprB ns with
  | false => rfl
  | true => exact absurd (exprB_at hx).1 h

set_option maxHeartbeats 3200000 in
set_option maxRecDepth 100000 in
theorem partsOf_any (v : Value) (ns : List NodeD) (w : World) (h : NRow w v ns) :
    Calls Tryz.prog 112 #[.agg #[v]] w fun e w' => (exprB ns = true ∧ (∃ o, e = .returned (.tuple #[o, .nilIface]) ∧ OwnP w.heap.size o ns w') ∨ exprB ns = false ∧ e = .returned (.tuple #[.slice none 0 0, faultV 1])) ∧ Below w.heap.size w w' := by
  obtain ⟨i0, hi, hz0, hz1, hz2⟩ := info_parts Tryz.infoPart
  have HR : Hid (NRow w v ns) := h
  obtain ⟨a, cap, rfl⟩ := h.slice
  clear h
  have B0 : Hid (Below w.heap.size w (w.alloc (.cells #[.slice a ns.length cap] 107))) := (Below.refl _ _).alloc (Nat.le_refl _) _
  by_cases hl0 : (ns.length : Int) < 1
  · have HF : Hid (exprB ns = false) := exprB_len (by omega)
    go_enter Tryz.func112, Tryz.ntmps112
    go_wp2
    go_ret2
    exact ⟨.inr ⟨HF.out, rfl⟩, B0.out⟩
  by_cases hl1 : (20 : Int) < (ns.length : Int)
  · have HF : Hid (exprB ns = false) := exprB_len (by omega)
    go_enter Tryz.func112, Tryz.ntmps112
    go_wp2
    go_ret2
    exact ⟨.inr ⟨HF.out, rfl⟩, B0.out⟩
  have HLen : Hid (inI (ns.length : Int) 1 20 = true) := by rw [Hid, inI]; exact decide_eq_true (by omega)
  have hl2 : ns.length ≤ 20 := by omega
  go_enter Tryz.func112, Tryz.ntmps112
  go_wp2_with (at_make; refine wpList_make_own _ rfl _ _ 154 rfl w.heap.size 168 i0 _ 1 Tryz.underlying154 hi hz0 hz1 .i64 .i64 _ ns.length rfl rfl rfl (by rw [hz2]; omega) (by unfold maxLen; omega) (by simp) ?_; intro w1 hown1 hg1; have hE1 : w1.cell? ⟨w.heap.size, 0, none⟩ = some (.slice a ns.length cap) := cell_keep (lit_one _ _ _) ((Below.refl _ _).grown hg1 (Nat.le_refl _) (fun k h => by cases h)))
  have HO1 : Hid (OwnP w.heap.size (.slice (some ⟨(w.alloc (.cells #[.slice a ns.length cap] 107)).heap.size, 0, none⟩) 0 ns.length) (ns.take 0) w1) := hown1
  have HB1 : Hid (Below w.heap.size w w1) := B0.out.trans ((Below.refl _ _).grown hg1 (by simp) (fun k h => by cases h))
  clear hown1 hg1 B0
  go_loopw [4, 28] (fun ov iv wr => ∃ k : Nat, iv = .int .i64 k ∧ k ≤ ns.length ∧ nodesF 0 (ns.take k) = true ∧ OwnP w.heap.size ov (ns.take k) wr ∧ Below w.heap.size w wr) (fun _ iv _ => ns.length - (intOf iv).toNat)
  case atStart => exact ⟨0, rfl, Nat.zero_le _, rfl, by simpa using HO1.out, HB1.out⟩
  case round =>
    obtain ⟨k, rfl, hk, hch, hown, hbw⟩ := hrel
    have HCh : Hid (nodesF 0 (ns.take k) = true) := hch
    obtain ⟨zs, hzs⟩ : ∃ zs, ns.take k = zs := ⟨_, rfl⟩
    have HZs : Hid (ns.take k = zs) := hzs
    have HO : Hid (OwnP w.heap.size u4 zs wr) := by rw [Hid, ← hzs]; exact hown
    have htk : zs.length ≤ 20 := by rw [← hzs, List.length_take]; omega
    have HB : Hid (Below w.heap.size w wr) := hbw
    clear hown hbw hch hzs
    by_cases hlt : k < ns.length
    · obtain ⟨b, off, kv, rfl, n0, n1, n2, n3, hI⟩ := (HR.out.below HB.out).at hlt
      have HNx : Hid (nodesF 0 (ns.take (k + 1)) = (nodesF 0 (ns.take k) && nodeB k ns[k])) := nodesF_next ns k hlt
      have HNo : Hid (nodeB k ns[k] = false → exprB ns = false) := exprB_no hlt
      obtain ⟨t, x, hx⟩ := partV_iface ns[k]
      have HPx : Hid (partV ns[k] = .iface t x) := hx
      obtain ⟨ak, ck, rfl⟩ := hI.slice
      have i4 : (k : Int) < (ns.length : Int) := by omega
      have BW : Hid (Below wr.heap.size wr (wr.alloc (.cells #[.int .i64 ns[k].op, .int .i64 ns[k].num, .string ns[k].name, .slice ak ns[k].kids.length ck] 138))) := (Below.refl _ _).alloc (Nat.le_refl _) _
      have HP : Hid (∀ W, IRow W (.slice ak ns[k].kids.length ck) ns[k].kids → Calls Tryz.prog 121 #[.agg #[.int .i64 ns[k].op, .int .i64 ns[k].num, .string ns[k].name, .slice ak ns[k].kids.length ck], .int .i64 k] W fun e w' => e = .returned (partR k ns[k]) ∧ Below W.heap.size W w') := fun W hw => partOf_any k ns[k].op ns[k].num ns[k].name ns[k].kids _ W hw
      have HI2 : Hid (IRow (wr.alloc (.cells #[.int .i64 ns[k].op, .int .i64 ns[k].num, .string ns[k].name, .slice ak ns[k].kids.length ck] 138)) (.slice ak ns[k].kids.length ck) ns[k].kids) := hI.below BW.out
      clear hI hx
      cases hnb : nodeB k ns[k] with
      | false =>
        have HPR : Hid (_ = _) := partR_no hnb
        have HF : Hid (exprB ns = false) := HNo.out hnb
        clear hnb
        go_wp2_with fail
        refine (HP.out _ HI2.out).mono ?_
        rw [HPR.out]
        rintro e w2 ⟨rfl, hb2⟩
        have B1 : Hid (Below wr.heap.size wr w2) := BW.out.trans (hb2.mono BW.out.size)
        clear hb2
        go_wp2
        go_ret2
        exact ⟨.inr ⟨HF.out, rfl⟩, HB.out.trans (B1.out.mono HB.out.size)⟩
      | true =>
        have HPR : Hid (partR k ns[k] = .tuple #[.iface t x, .nilIface]) := by rw [Hid, partR_yes hnb, HPx.out]
        have HY : Hid (nodesF 0 (ns.take (k + 1)) = true) := by rw [Hid, HNx.out, HCh.out, hnb]; rfl
        clear hnb
        go_wp2_with fail
        refine (HP.out _ HI2.out).mono ?_
        rw [HPR.out]
        rintro e w2 ⟨rfl, hb2⟩
        have B1 : Hid (Below wr.heap.size wr w2) := BW.out.trans (hb2.mono BW.out.size)
        have HO2 : Hid (OwnP w.heap.size u4 zs w2) := HO.out.below B1.out
        have HB2 : Hid (Below w.heap.size w w2) := HB.out.trans (B1.out.mono HB.out.size)
        clear hb2
        go_wp2_with (at_builtin; refine wpList_append_own _ rfl _ _ 154 rfl w.heap.size 168 i0 _ 1 16 Tryz.underlying154 hi hz0 hz1 hz2 rfl (by decide) _ _ _ rfl (World.ownsRow.alloc HO2.out _) ⟨_, 0, none⟩ 1 1 [.iface t x] rfl rfl (cell_one_new _ _ _) (one_cellP _ _) (by unfold maxLen; omega) (by omega) (by have h8 := HB2.out.size; simp; omega) ?_)
        intro v' w3 hown3 hgrow _
        have R := ownP_snoc hlt HZs.out HPx.out hown3 HO2.out hgrow rfl HB2.out
        clear hown3 hgrow
        go_wp2
        go_roundw
        case rel => exact ⟨k + 1, by go_num, by omega, HY.out, R.1, R.2⟩
        case measure => simp [intOf]; omega
    · obtain rfl : k = ns.length := by omega
      rw [List.take_of_length_le (Nat.le_refl _)] at HCh HZs
      rw [← HZs.out] at HO
      have HF : Hid (exprB ns = true) := by rw [Hid, exprB, HCh.out, HLen.out]; rfl
      have i4 : ¬ (ns.length : Int) < (ns.length : Int) := by omega
      go_wp2
      go_ret2
      exact ⟨.inl ⟨HF.out, _, rfl, HO.out⟩, HB.out⟩
theorem partsOf_no (v : Value) (ns : List NodeD) (w : World) (h : NRow w v ns) (hx : exprB ns = false) :
    Calls Tryz.prog 112 #[.agg #[v]] w fun e w' => e = .returned (.tuple #[.slice none 0 0, faultV 1]) ∧ Below w.heap.size w w' := by
  refine (partsOf_any v ns w h).mono ?_
  rintro e w' ⟨⟨h1, _⟩ | ⟨_, h2⟩, hb⟩
  · rw [hx] at h1; cases h1
  · exact ⟨h2, hb⟩
theorem partsOf_yes (v : Value) (ns : List NodeD) (w : World) (h : NRow w v ns) (hx : exprB ns = true) :
    Calls Tryz.prog 112 #[.agg #[v]] w fun e w' => ∃ o, e = .returned (.tuple #[o, .nilIface]) ∧ OwnP w.heap.size o ns w' ∧ Below w.heap.size w w' := by
  refine (partsOf_any v ns w h).mono ?_
  rintro e w' ⟨⟨_, o, he, ho⟩ | ⟨h1, _⟩, hb⟩
  · exact ⟨o, he, ho, hb⟩
  · rw [hx] at h1; cases h1

set_option maxHeartbeats 1600000 in
theorem implExprOk_any (v : Value) (ns : List NodeD) (w : World) (hg : errTy w) (h : NRow w v ns) :
    Calls Tryz.prog 103 #[.agg #[v]] w fun e w' => e = .returned (.bool (exprB ns)) ∧ Below w.heap.size w w' := by
  have HG : Hid (errTy w) := hg
  have HR : Hid (NRow w v ns) := h
  obtain ⟨a, cap, rfl⟩ := h.slice
  have B0 : Hid (Below w.heap.size w (w.alloc (.cells #[.slice a ns.length cap] 107))) := (Below.refl _ _).alloc (Nat.le_refl _) _
  clear h hg
  cases hx : exprB ns with
  | false =>
    have HP : Hid (∀ W, NRow W (.slice a ns.length cap) ns → _) := fun W hw => partsOf_no (.slice a ns.length cap) ns W hw hx
    clear hx
    go_enter Tryz.func103, Tryz.ntmps103
    go_wp2_with fail
    refine (HP.out _ (HR.out.below B0.out)).mono ?_
    rintro e w1 ⟨rfl, hb1⟩
    have B1 : Hid (Below w.heap.size w w1) := B0.out.trans (hb1.mono B0.out.size)
    clear hb1
    go_wp2_with fail
    refine (faultCode_is 1 _ (HG.out.below B1.out)).mono ?_
    rintro e w2 ⟨rfl, hb2⟩
    have B2 : Hid (Below w.heap.size w w2) := B1.out.trans (hb2.mono B1.out.size)
    clear hb2
    go_wp2
    go_ret
    exact ⟨rfl, B2.out⟩
  | true =>
    have HP : Hid (∀ W, NRow W (.slice a ns.length cap) ns → _) := fun W hw => partsOf_yes (.slice a ns.length cap) ns W hw hx
    clear hx
    go_enter Tryz.func103, Tryz.ntmps103
    go_wp2_with fail
    refine (HP.out _ (HR.out.below B0.out)).mono ?_
    rintro e w1 ⟨o, rfl, _, hb1⟩
    have B1 : Hid (Below w.heap.size w w1) := B0.out.trans (hb1.mono B0.out.size)
    clear hb1
    go_wp2_with fail
    refine (faultCode_nil _).mono ?_
    rintro e w2 ⟨rfl, hb2⟩
    have B2 : Hid (Below w.heap.size w w2) := B1.out.trans (hb2.mono B1.out.size)
    clear hb2
    go_wp2
    go_ret
    exact ⟨rfl, B2.out⟩
end Go.Proofs.YtofpoiccghpliaaGreatDoor

namespace Go.Proofs.YtofpoiccghpliaaGreatDoor
open Go.RowKit

theorem Tryz.ta_num_num (v : Value) (w : World) : (Instr.typeAssert (.iface 183 v) 168 183 true).run Tryz.prog w = .ok (.tuple #[v, .bool true]) w := by kernel_rfl
theorem Tryz.ta_num_var (v : Value) (w : World) : (Instr.typeAssert (.iface 183 v) 168 174 true).run Tryz.prog w = .ok (.tuple #[.agg #[.string ⟨#[]⟩], .bool false]) w := by kernel_rfl
theorem Tryz.ta_num_here (v : Value) (w : World) : (Instr.typeAssert (.iface 183 v) 168 184 true).run Tryz.prog w = .ok (.tuple #[.agg #[], .bool false]) w := by kernel_rfl
theorem Tryz.ta_num_pair (v : Value) (w : World) : (Instr.typeAssert (.iface 183 v) 168 187 true).run Tryz.prog w = .ok (.tuple #[.agg #[.int .i64 0, .int .i64 0, .int .i64 0], .bool false]) w := by kernel_rfl
theorem Tryz.ta_num_not (v : Value) (w : World) : (Instr.typeAssert (.iface 183 v) 168 189 true).run Tryz.prog w = .ok (.tuple #[.agg #[.int .i64 0], .bool false]) w := by kernel_rfl
theorem Tryz.ta_var_num (v : Value) (w : World) : (Instr.typeAssert (.iface 174 v) 168 183 true).run Tryz.prog w = .ok (.tuple #[.agg #[.int .i64 0], .bool false]) w := by kernel_rfl
theorem Tryz.ta_var_var (v : Value) (w : World) : (Instr.typeAssert (.iface 174 v) 168 174 true).run Tryz.prog w = .ok (.tuple #[v, .bool true]) w := by kernel_rfl
theorem Tryz.ta_var_here (v : Value) (w : World) : (Instr.typeAssert (.iface 174 v) 168 184 true).run Tryz.prog w = .ok (.tuple #[.agg #[], .bool false]) w := by kernel_rfl
theorem Tryz.ta_var_pair (v : Value) (w : World) : (Instr.typeAssert (.iface 174 v) 168 187 true).run Tryz.prog w = .ok (.tuple #[.agg #[.int .i64 0, .int .i64 0, .int .i64 0], .bool false]) w := by kernel_rfl
theorem Tryz.ta_var_not (v : Value) (w : World) : (Instr.typeAssert (.iface 174 v) 168 189 true).run Tryz.prog w = .ok (.tuple #[.agg #[.int .i64 0], .bool false]) w := by kernel_rfl
theorem Tryz.ta_here_num (v : Value) (w : World) : (Instr.typeAssert (.iface 184 v) 168 183 true).run Tryz.prog w = .ok (.tuple #[.agg #[.int .i64 0], .bool false]) w := by kernel_rfl
theorem Tryz.ta_here_var (v : Value) (w : World) : (Instr.typeAssert (.iface 184 v) 168 174 true).run Tryz.prog w = .ok (.tuple #[.agg #[.string ⟨#[]⟩], .bool false]) w := by kernel_rfl
theorem Tryz.ta_here_here (v : Value) (w : World) : (Instr.typeAssert (.iface 184 v) 168 184 true).run Tryz.prog w = .ok (.tuple #[v, .bool true]) w := by kernel_rfl
theorem Tryz.ta_here_pair (v : Value) (w : World) : (Instr.typeAssert (.iface 184 v) 168 187 true).run Tryz.prog w = .ok (.tuple #[.agg #[.int .i64 0, .int .i64 0, .int .i64 0], .bool false]) w := by kernel_rfl
theorem Tryz.ta_here_not (v : Value) (w : World) : (Instr.typeAssert (.iface 184 v) 168 189 true).run Tryz.prog w = .ok (.tuple #[.agg #[.int .i64 0], .bool false]) w := by kernel_rfl
theorem Tryz.ta_pair_num (v : Value) (w : World) : (Instr.typeAssert (.iface 187 v) 168 183 true).run Tryz.prog w = .ok (.tuple #[.agg #[.int .i64 0], .bool false]) w := by kernel_rfl
theorem Tryz.ta_pair_var (v : Value) (w : World) : (Instr.typeAssert (.iface 187 v) 168 174 true).run Tryz.prog w = .ok (.tuple #[.agg #[.string ⟨#[]⟩], .bool false]) w := by kernel_rfl
theorem Tryz.ta_pair_here (v : Value) (w : World) : (Instr.typeAssert (.iface 187 v) 168 184 true).run Tryz.prog w = .ok (.tuple #[.agg #[], .bool false]) w := by kernel_rfl
theorem Tryz.ta_pair_pair (v : Value) (w : World) : (Instr.typeAssert (.iface 187 v) 168 187 true).run Tryz.prog w = .ok (.tuple #[v, .bool true]) w := by kernel_rfl
theorem Tryz.ta_pair_not (v : Value) (w : World) : (Instr.typeAssert (.iface 187 v) 168 189 true).run Tryz.prog w = .ok (.tuple #[.agg #[.int .i64 0], .bool false]) w := by kernel_rfl
theorem Tryz.ta_not_num (v : Value) (w : World) : (Instr.typeAssert (.iface 189 v) 168 183 true).run Tryz.prog w = .ok (.tuple #[.agg #[.int .i64 0], .bool false]) w := by kernel_rfl
theorem Tryz.ta_not_var (v : Value) (w : World) : (Instr.typeAssert (.iface 189 v) 168 174 true).run Tryz.prog w = .ok (.tuple #[.agg #[.string ⟨#[]⟩], .bool false]) w := by kernel_rfl
theorem Tryz.ta_not_here (v : Value) (w : World) : (Instr.typeAssert (.iface 189 v) 168 184 true).run Tryz.prog w = .ok (.tuple #[.agg #[], .bool false]) w := by kernel_rfl
theorem Tryz.ta_not_pair (v : Value) (w : World) : (Instr.typeAssert (.iface 189 v) 168 187 true).run Tryz.prog w = .ok (.tuple #[.agg #[.int .i64 0, .int .i64 0, .int .i64 0], .bool false]) w := by kernel_rfl
theorem Tryz.ta_not_not (v : Value) (w : World) : (Instr.typeAssert (.iface 189 v) 168 189 true).run Tryz.prog w = .ok (.tuple #[v, .bool true]) w := by kernel_rfl

end Go.Proofs.YtofpoiccghpliaaGreatDoor

namespace Go.Proofs.YtofpoiccghpliaaGreatDoor
open Go.RowKit

abbrev leL (x y : List UInt8) : Bool := decide (x ≤ y)
theorem lt_of_le_ne {x y : List UInt8} (h : x ≤ y) (hne : x ≠ y) : x < y := by
  rcases Decidable.em (x < y) with h1 | h1
  · exact h1
  · exact absurd (List.le_antisymm h (List.not_lt.1 h1)) hne
theorem compact_asc (d : Array (List UInt8)) (n : Nat) (hs : ∀ i j, i ≤ j → j < n → d[i]! ≤ d[j]!) : ∀ m, m ≤ n →
    (Lib.compactUpTo d m).Pairwise (fun x y => x < y) ∧ ∀ x, x ∈ Lib.compactUpTo d m ↔ ∃ j, j < m ∧ x = d[j]!
  | 0, _ => by simp [Lib.compactUpTo]
  | m + 1, hm => by
    obtain ⟨h1, h2⟩ := compact_asc d n hs m (by omega)
    rw [Lib.compactUpTo_succ]
    by_cases hk : Lib.keeps d m = true
    · rw [if_pos hk]
      refine ⟨List.pairwise_append.2 ⟨h1, by simp, fun x hx y hy => ?_⟩, fun x => ?_⟩
      · obtain rfl : y = d[m]! := by simpa using hy
        obtain ⟨j, hj, rfl⟩ := (h2 x).1 hx
        have hne : d[m]! ≠ d[m - 1]! := by
          have := of_decide_eq_true hk
          rcases this with h | h
          · omega
          · exact h
        have hlt := lt_of_le_ne (hs (m - 1) m (by omega) (by omega)) (fun e => hne e.symm)
        exact List.lt_of_le_of_lt (hs j (m - 1) (by omega) (by omega)) hlt
      · rw [List.mem_append, h2 x, List.mem_singleton]
        constructor
        · rintro (⟨j, hj, e⟩ | e)
          · exact ⟨j, by omega, e⟩
          · exact ⟨m, by omega, e⟩
        · rintro ⟨j, hj, e⟩
          by_cases h : j = m
          · subst h; exact .inr e
          · exact .inl ⟨j, by omega, e⟩
    · rw [if_neg hk, List.append_nil]
      refine ⟨h1, fun x => ?_⟩
      rw [h2 x]
      constructor
      · rintro ⟨j, hj, e⟩
        exact ⟨j, by omega, e⟩
      · rintro ⟨j, hj, e⟩
        by_cases h : j = m
        · subst h
          have hd : ¬ (j = 0 ∨ d[j]! ≠ d[j - 1]!) := fun h => hk (decide_eq_true h)
          have h0 : j ≠ 0 := fun h => hd (.inl h)
          have he : d[j]! = d[j - 1]! := Decidable.not_not.1 fun h => hd (.inr h)
          exact ⟨j - 1, by omega, by rw [e, he]⟩
        · exact ⟨j, by omega, e⟩
theorem get_toArray (zs : List (List UInt8)) (j : Nat) (h : j < zs.length) : zs.toArray[j]! = zs[j] := by
  rw [getElem!_pos _ _ (by simpa using h)]
  simp
/-- Sorted, then each once: ascending, the same elements. -/
theorem compact_sorted (zs : List (List UInt8)) : (Lib.compact (zs.mergeSort leL)).Pairwise (fun x y => x < y) ∧ ∀ x, x ∈ Lib.compact (zs.mergeSort leL) ↔ x ∈ zs := by
  have tr : ∀ a b c : List UInt8, leL a b = true → leL b c = true → leL a c = true := fun a b c h1 h2 => by simp only [leL, decide_eq_true_eq] at *; exact List.le_trans h1 h2
  have ltot : ∀ a b : List UInt8, (leL a b || leL b a) = true := fun a b => by simp only [leL, Bool.or_eq_true, decide_eq_true_eq]; exact List.le_total a b
  have hp := List.pairwise_mergeSort tr ltot zs
  have hperm := List.mergeSort_perm zs leL
  generalize zs.mergeSort leL = ys at *
  have hs : ∀ i j, i ≤ j → j < ys.length → ys.toArray[i]! ≤ ys.toArray[j]! := fun i j hij hj => by
    rw [get_toArray _ _ (by omega), get_toArray _ _ hj]
    by_cases e : i = j
    · subst e; exact List.le_refl _
    · have := List.pairwise_iff_getElem.1 hp i j (by omega) hj (by omega)
      simpa [leL] using this
  obtain ⟨h1, h2⟩ := compact_asc ys.toArray ys.length hs ys.length (Nat.le_refl _)
  refine ⟨h1, fun x => ?_⟩
  rw [Lib.compact, h2 x, ← hperm.mem_iff]
  constructor
  · rintro ⟨j, hj, rfl⟩
    rw [get_toArray _ _ hj]
    exact List.getElem_mem hj
  · intro hx
    obtain ⟨j, hj, rfl⟩ := List.getElem_of_mem hx
    exact ⟨j, hj, (get_toArray _ _ hj).symm⟩
theorem asc_same {l m : List (List UInt8)} (hl : l.Pairwise (fun x y => x < y)) (hm : m.Pairwise (fun x y => x < y)) (h : ∀ x, x ∈ l ↔ x ∈ m) : l = m := by
  have nd : ∀ {l : List (List UInt8)}, l.Pairwise (fun x y => x < y) → l.Nodup := fun h => h.imp fun {a b} hab e => by subst e; exact List.lt_irrefl _ hab
  refine List.Perm.eq_of_pairwise (le := fun a b => a < b) (fun a b _ _ h1 h2 => absurd (List.lt_trans h1 h2) (List.lt_irrefl _)) hl hm ((List.perm_ext_iff_of_nodup (nd hl) (nd hm)).2 h)
theorem ltS_iff (a b : ByteArray) : ltS a b = true ↔ a.data.toList < b.data.toList := by
  rw [ltS, bytesLess_eq, decide_eq_true_eq, ByteArray.toList_eq, ByteArray.toList_eq]
def AscS (ss : List ByteArray) : Prop := ss.Pairwise fun a b => ltS a b = true
theorem mem_putS {ss : List ByteArray} {s x : ByteArray} : x ∈ putS ss s ↔ x ∈ ss ∨ x = s := by
  rw [putS, List.mem_append, List.mem_append, List.mem_filter, List.mem_filter, List.mem_singleton]
  constructor
  · rintro ((h | h) | h)
    · exact .inl h.1
    · exact .inr h
    · exact .inl h.1
  · rintro (h | h)
    · rcases lt_tri x s with h1 | h1 | h1
      · exact .inl (.inl ⟨h, h1⟩)
      · exact .inl (.inr h1)
      · exact .inr ⟨h, by rw [gt_iff]; exact h1⟩
    · exact .inl (.inr h)
theorem ascS_put {ss : List ByteArray} (h : AscS ss) (s : ByteArray) : AscS (putS ss s) := by
  rw [putS]
  refine List.pairwise_append.2 ⟨List.pairwise_append.2 ⟨h.filter _, by simp, fun x hx y hy => ?_⟩, h.filter _, fun x hx y hy => ?_⟩
  · obtain rfl : y = s := by simpa using hy
    exact (List.mem_filter.1 hx).2
  · have hy2 : ltS s y = true := by rw [← gt_iff]; exact (List.mem_filter.1 hy).2
    rcases List.mem_append.1 hx with hx | hx
    · exact lt_trans' (List.mem_filter.1 hx).2 hy2
    · obtain rfl : x = s := by simpa using hx
      exact hy2
/-- The names of the nodes, as they come. -/
def namesF (ns : List NodeD) : List ByteArray := (ns.filter fun x => decide (x.op = 2)).map fun x => x.name
theorem namesF_next (ns : List NodeD) (k : Nat) (h : k < ns.length) : namesF (ns.take (k + 1)) = namesF (ns.take k) ++ (if ns[k].op = 2 then [ns[k].name] else []) := by
  rw [List.take_succ_eq_append_getElem h, namesF, List.filter_append, List.map_append, ← namesF]
  congr 1
  rw [List.filter_cons, List.filter_nil]
  by_cases e : ns[k].op = 2
  · simp [e]
  · simp [e]
theorem namesF_len (ns : List NodeD) : (namesF ns).length ≤ ns.length := by
  rw [namesF, List.length_map]
  exact List.length_filter_le ..
theorem freeF_asc (ns : List NodeD) : ∀ k, k ≤ ns.length → AscS (freeF (ns.take k)) ∧ ∀ x, x ∈ freeF (ns.take k) ↔ x ∈ namesF (ns.take k)
  | 0, _ => ⟨List.Pairwise.nil, fun x => by simp [freeF, namesF]⟩
  | k + 1, h => by
    obtain ⟨h1, h2⟩ := freeF_asc ns k (by omega)
    rw [freeF_next ns k (by omega), namesF_next ns k (by omega)]
    by_cases e : ns[k].op = 2
    · rw [if_pos e, if_pos e]
      exact ⟨ascS_put h1 _, fun x => by rw [mem_putS, h2 x, List.mem_append, List.mem_singleton]⟩
    · rw [if_neg e, if_neg e, List.append_nil]
      exact ⟨h1, h2⟩
theorem free_compact (ns : List NodeD) : Lib.compact (((namesF ns).map fun s => s.data.toList).mergeSort leL) = (freeF ns).map fun s => s.data.toList := by
  obtain ⟨h1, h2⟩ := compact_sorted ((namesF ns).map fun s => s.data.toList)
  obtain ⟨h3, h4⟩ := freeF_asc ns ns.length (Nat.le_refl _)
  rw [List.take_of_length_le (Nat.le_refl _)] at h3 h4
  refine asc_same h1 (List.pairwise_map.2 (h3.imp fun {a b} hab => (ltS_iff a b).1 hab)) fun x => ?_
  rw [h2 x, List.mem_map, List.mem_map]
  exact ⟨fun ⟨s, hs, e⟩ => ⟨s, (h4 s).2 hs, e⟩, fun ⟨s, hs, e⟩ => ⟨s, (h4 s).1 hs, e⟩⟩
end Go.Proofs.YtofpoiccghpliaaGreatDoor
