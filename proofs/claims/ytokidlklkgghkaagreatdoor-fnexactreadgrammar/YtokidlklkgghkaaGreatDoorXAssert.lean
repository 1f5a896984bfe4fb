/- The laws' own helpers on expressions: how great they are, copied. -/
/- The specification's l04Size: how great an expression is when it is written out, 201 at most. -/
/- The program's partsOf and ExprOk. -/
/- What a type assertion gives: each kind of part held against each. -/
import Derived.Test.YtokidlklkgghkaaGreatDoorXOk
import Derived.Test.YtokidlklkgghkaaGreatDoorXPart
import Derived.Test.YtokidlklkgghkaaGreatDoorProg
import Derived.Handy
import Derived.OwnWalk
import Derived.Laws.OwnMore
import Derived.Maps.AppendAt
import Derived.WalkKit
namespace Go.Proofs.YtokidlklkgghkaaGreatDoor
open Go.RowKit

/-- Numbers that the call owns. -/
def zv (ks : List Int) : List Value := ks.map (.int .i64 ·)
def OwnZ (B : Nat) (v : Value) (ks : List Int) (w : World) : Prop := w.ownsRow B 3 1 v ks.length (zv ks)
theorem OwnZ.row {B : Nat} {v : Value} {ks : List Int} {w : World} (h : OwnZ B v ks w) : IRow w v ks := by
  rcases h.2 with ⟨rfl, hz⟩ | ⟨g, cap, cur, rfl, hB, hc, hle, hm, hs, ht⟩
  · exact ⟨none, 0, by rw [hz], fun _ => rfl, fun h0 => by omega⟩
  · refine ⟨some ⟨g, 0, none⟩, cap, rfl, fun h => (by cases h), fun _ => ⟨g, 0, rfl, (Array.getElem?_eq_some_iff.1 hc).1, fun i hi => ?_⟩⟩
    have := World.ownsRow.cells h (g := g) rfl i (.int .i64 ks[i]) (by simp [zv, hi])
    rwa [Addr.add_lit] at this
theorem Tryz.infoInt5 : (Tryz.prog.info? 3).map (fun i => (i.zero, i.size, i.bytes)) = some (some (.int .i64 0), 1, 8) := by kernel_rfl

end Go.Proofs.YtokidlklkgghkaaGreatDoor

namespace Go.Proofs.YtokidlklkgghkaaGreatDoor
open Go.RowKit

end Go.Proofs.YtokidlklkgghkaaGreatDoor

namespace Go.Proofs.YtokidlklkgghkaaGreatDoor
open Go.RowKit

/-- A row of parts. -/
def PRow (w : World) (v : Value) (ns : List NodeD) : Prop :=
  ∃ a cap, v = .slice a ns.length cap ∧ (a = none → cap = 0) ∧ (0 < ns.length → ∃ b off, a = some ⟨b, off, none⟩ ∧ b < w.heap.size ∧
    ∀ i (h : i < ns.length), w.cell? ⟨b, off + i, none⟩ = some (partV ns[i]))
theorem PRow.slice {w : World} {v : Value} {ns : List NodeD} (h : PRow w v ns) : ∃ a cap, v = .slice a ns.length cap := by
  obtain ⟨a, cap, rfl, _⟩ := h
  exact ⟨a, cap, rfl⟩
theorem PRow.below {w w' : World} {v : Value} {ns : List NodeD} (h : PRow w v ns) (hb : Below w.heap.size w w') : PRow w' v ns := by
  obtain ⟨a, cap, rfl, hcap, hh⟩ := h
  refine ⟨a, cap, rfl, hcap, fun h0 => ?_⟩
  obtain ⟨b, off, rfl, hlt, hc⟩ := hh h0
  exact ⟨b, off, rfl, Nat.lt_of_lt_of_le hlt hb.size, fun i hi => (World.cell?_of_block (hb.block b hlt)).trans (hc i hi)⟩
theorem PRow.at {w : World} {a : Option Addr} {n cap k : Nat} {ns : List NodeD} (h : PRow w (.slice a n cap) ns) (hk : k < ns.length) :
    ∃ b off, a = some ⟨b, off, none⟩ ∧ w.cell? ⟨b, off + k, none⟩ = some (partV ns[k]) := by
  obtain ⟨a', cap', e, _, hh⟩ := h
  cases e
  obtain ⟨b, off, rfl, _, hc⟩ := hh (by omega)
  exact ⟨b, off, rfl, hc k hk⟩
def OwnP (B : Nat) (v : Value) (ns : List NodeD) (w : World) : Prop := w.ownsRow B 172 1 v ns.length (ns.map partV)
theorem OwnP.row {B : Nat} {v : Value} {ns : List NodeD} {w : World} (h : OwnP B v ns w) : PRow w v ns := by
  rcases h.2 with ⟨rfl, h0⟩ | ⟨g, cap, cur, rfl, hg, hh, hnc, hcp, hcs, htake⟩
  · exact ⟨none, 0, by rw [h0], fun _ => rfl, fun h => by omega⟩
  · refine ⟨some ⟨g, 0, none⟩, cap, rfl, (by intro h; cases h), fun _ => ⟨g, 0, rfl, (Array.getElem?_eq_some_iff.1 hh).1, fun i hi => ?_⟩⟩
    rw [Nat.zero_add, World.ownsRow.cellAt h i (by omega)]
    simp [hi]
theorem OwnP.below {B : Nat} {v : Value} {ns : List NodeD} {w w' : World} (h : OwnP B v ns w) (hb : Below w.heap.size w w') : OwnP B v ns w' := own_below h hb
theorem partV_iface (x : NodeD) : ∃ t v, partV x = .iface t v := by
  unfold partV
  split
  · exact ⟨_, _, rfl⟩
  · split
    · exact ⟨_, _, rfl⟩
    · split
      · exact ⟨_, _, rfl⟩
      · split
        · exact ⟨_, _, rfl⟩
        · exact ⟨_, _, rfl⟩
theorem one_cellP (t : TypeId) (x : Value) : ∀ u ∈ [Value.iface t x], u.oneCell' = true := by
  intro u hu
  obtain rfl : u = .iface t x := by simpa using hu
  rfl
theorem Tryz.infoPart : (Tryz.prog.info? 172).map (fun i => (i.zero, i.size, i.bytes)) = some (some .nilIface, 1, 16) := by kernel_rfl
theorem ownP_snoc {B : Nat} {o v' : Value} {ns zs : List NodeD} {k : Nat} (hk : k < ns.length) (hz : ns.take k = zs) {t : TypeId} {x : Value} (hx : partV ns[k] = .iface t x) {wr w2 : World} {ob : Obj} (hown2 : w2.ownsRow B 172 1 v' (zs.length + 1) (zs.map partV ++ [.iface t x])) (hown : OwnP B o zs wr) (hgrow : (wr.alloc ob).grownBy w2 o.ownBlock)
    {w : World} (hw : B = w.heap.size) (hb : Below w.heap.size w wr) : OwnP B v' (ns.take (k + 1)) w2 ∧ Below w.heap.size w w2 := by
  subst hw
  refine ⟨?_, ?_⟩
  · rw [OwnP, List.take_succ_eq_append_getElem hk, hz, List.length_append, List.map_append, List.map_singleton, hx]
    exact hown2
  · exact (hb.alloc hb.size ob).grown hgrow (by have := hb.size; simp; omega) (fun k hk => (World.ownsRow.lt hown k hk).1)
theorem exprB_len {ns : List NodeD} (h : ¬ (1 ≤ ns.length ∧ ns.length ≤ 20)) : exprB ns = false := by
  cases hx : exprB ns with
  | false => rfl
  | true => exact absurd (exprB_at hx).1 h

set_option maxHeartbeats 3200000 in
set_option maxRecDepth 100000 in
theorem partsOf_any (v : Value) (ns : List NodeD) (w : World) (h : NRow w v ns) :
    Calls Tryz.prog 143 #[.agg #[v]] w fun e w' => (exprB ns = true ∧ (∃ o, e = .returned (.tuple #[o, .nilIface]) ∧ OwnP w.heap.size o ns w') ∨ exprB ns = false ∧ e = .returned (.tuple #[.slice none 0 0, faultV 1])) ∧ Below w.heap.size w w' := by
  obtain ⟨i0, hi, hz0, hz1, hz2⟩ := info_parts Tryz.infoPart
  have HR : Hid (NRow w v ns) := h
  obtain ⟨a, cap, rfl⟩ := h.slice
  clear h
  have B0 : Hid (Below w.heap.size w (w.alloc (.cells #[.slice a ns.length cap] 66))) := (Below.refl _ _).alloc (Nat.le_refl _) _
  by_cases hl0 : (ns.length : Int) < 1
  · have HF : Hid (exprB ns = false) := exprB_len (by omega)
    go_enter Tryz.func143, Tryz.ntmps143
    go_wp2
    go_ret2
    exact ⟨.inr ⟨HF.out, rfl⟩, B0.out⟩
  by_cases hl1 : (20 : Int) < (ns.length : Int)
  · have HF : Hid (exprB ns = false) := exprB_len (by omega)
    go_enter Tryz.func143, Tryz.ntmps143
    go_wp2
    go_ret2
    exact ⟨.inr ⟨HF.out, rfl⟩, B0.out⟩
  have HLen : Hid (inI (ns.length : Int) 1 20 = true) := by rw [Hid, inI]; exact decide_eq_true (by omega)
  have hl2 : ns.length ≤ 20 := by omega
  go_enter Tryz.func143, Tryz.ntmps143
  go_wp2_with (at_make; refine wpList_make_own _ rfl _ _ 160 rfl w.heap.size 172 i0 _ 1 Tryz.underlying160 hi hz0 hz1 .i64 .i64 _ ns.length rfl rfl rfl (by rw [hz2]; omega) (by unfold maxLen; omega) (by simp) ?_; intro w1 hown1 hg1; have hE1 : w1.cell? ⟨w.heap.size, 0, none⟩ = some (.slice a ns.length cap) := cell_keep (lit_one _ _ _) ((Below.refl _ _).grown hg1 (Nat.le_refl _) (fun k h => by cases h)))
  have HO1 : Hid (OwnP w.heap.size (.slice (some ⟨(w.alloc (.cells #[.slice a ns.length cap] 66)).heap.size, 0, none⟩) 0 ns.length) (ns.take 0) w1) := hown1
  have HB1 : Hid (Below w.heap.size w w1) := B0.out.trans ((Below.refl _ _).grown hg1 (by simp) (fun k h => by cases h))
  clear hown1 hg1 B0
  go_loopw [4, 28] (fun ov iv wr => ∃ k : Nat, iv = .int .i64 k ∧ k ≤ ns.length ∧ nodesF 0 (ns.take k) = true ∧ OwnP w.heap.size ov (ns.take k) wr ∧ Below w.heap.size w wr) (fun _ iv _ => ns.length - (intOf iv).toNat)
  case atStart => exact ⟨0, rfl, Nat.zero_le _, rfl, by simpa using HO1.out, HB1.out⟩
  case round =>
    obtain ⟨k, rfl, hk, hch, hown, hbw⟩ := hrel
    have HCh : Hid (nodesF 0 (ns.take k) = true) := hch
    obtain ⟨zs, hzs⟩ : ∃ zs, ns.take k = zs := ⟨_, rfl⟩
    have HZs : Hid (ns.take k = zs) := hzs
    have HO : Hid (OwnP w.heap.size u4 zs wr) := by rw [Hid, ← hzs]; exact hown
    have htk : zs.length ≤ 20 := by rw [← hzs, List.length_take]; omega
    have HB : Hid (Below w.heap.size w wr) := hbw
    clear hown hbw hch hzs
    by_cases hlt : k < ns.length
    · obtain ⟨b, off, kv, rfl, n0, n1, n2, n3, hI⟩ := (HR.out.below HB.out).at hlt
      have HNx : Hid (nodesF 0 (ns.take (k + 1)) = (nodesF 0 (ns.take k) && nodeB k ns[k])) := nodesF_next ns k hlt
      have HNo : Hid (nodeB k ns[k] = false → exprB ns = false) := exprB_no hlt
      obtain ⟨t, x, hx⟩ := partV_iface ns[k]
      have HPx : Hid (partV ns[k] = .iface t x) := hx
      obtain ⟨ak, ck, rfl⟩ := hI.slice
      have i4 : (k : Int) < (ns.length : Int) := by omega
      have BW : Hid (Below wr.heap.size wr (wr.alloc (.cells #[.int .i64 ns[k].op, .int .i64 ns[k].num, .string ns[k].name, .slice ak ns[k].kids.length ck] 93))) := (Below.refl _ _).alloc (Nat.le_refl _) _
      have HP : Hid (∀ W, IRow W (.slice ak ns[k].kids.length ck) ns[k].kids → Calls Tryz.prog 151 #[.agg #[.int .i64 ns[k].op, .int .i64 ns[k].num, .string ns[k].name, .slice ak ns[k].kids.length ck], .int .i64 k] W fun e w' => e = .returned (partR k ns[k]) ∧ Below W.heap.size W w') := fun W hw => partOf_any k ns[k].op ns[k].num ns[k].name ns[k].kids _ W hw
      have HI2 : Hid (IRow (wr.alloc (.cells #[.int .i64 ns[k].op, .int .i64 ns[k].num, .string ns[k].name, .slice ak ns[k].kids.length ck] 93)) (.slice ak ns[k].kids.length ck) ns[k].kids) := hI.below BW.out
      clear hI hx
      cases hnb : nodeB k ns[k] with
      | false =>
        have HPR : Hid (_ = _) := partR_no hnb
        have HF : Hid (exprB ns = false) := HNo.out hnb
        clear hnb
        go_wp2_with fail
        refine (HP.out _ HI2.out).mono ?_
        rw [HPR.out]
        rintro e w2 ⟨rfl, hb2⟩
        have B1 : Hid (Below wr.heap.size wr w2) := BW.out.trans (hb2.mono BW.out.size)
        clear hb2
        go_wp2
        go_ret2
        exact ⟨.inr ⟨HF.out, rfl⟩, HB.out.trans (B1.out.mono HB.out.size)⟩
      | true =>
        have HPR : Hid (partR k ns[k] = .tuple #[.iface t x, .nilIface]) := by rw [Hid, partR_yes hnb, HPx.out]
        have HY : Hid (nodesF 0 (ns.take (k + 1)) = true) := by rw [Hid, HNx.out, HCh.out, hnb]; rfl
        clear hnb
        go_wp2_with fail
        refine (HP.out _ HI2.out).mono ?_
        rw [HPR.out]
        rintro e w2 ⟨rfl, hb2⟩
        have B1 : Hid (Below wr.heap.size wr w2) := BW.out.trans (hb2.mono BW.out.size)
        have HO2 : Hid (OwnP w.heap.size u4 zs w2) := HO.out.below B1.out
        have HB2 : Hid (Below w.heap.size w w2) := HB.out.trans (B1.out.mono HB.out.size)
        clear hb2
        go_wp2_with (at_builtin; refine wpList_append_own _ rfl _ _ 160 rfl w.heap.size 172 i0 _ 1 16 Tryz.underlying160 hi hz0 hz1 hz2 rfl (by decide) _ _ _ rfl (World.ownsRow.alloc HO2.out _) ⟨_, 0, none⟩ 1 1 [.iface t x] rfl rfl (cell_one_new _ _ _) (one_cellP _ _) (by unfold maxLen; omega) (by omega) (by have h8 := HB2.out.size; simp; omega) ?_)
        intro v' w3 hown3 hgrow _
        have R := ownP_snoc hlt HZs.out HPx.out hown3 HO2.out hgrow rfl HB2.out
        clear hown3 hgrow
        go_wp2
        go_roundw
        case rel => exact ⟨k + 1, by go_num, by omega, HY.out, R.1, R.2⟩
        case measure => simp [intOf]; omega
    · obtain rfl : k = ns.length := by omega
      rw [List.take_of_length_le (Nat.le_refl _)] at HCh HZs
      rw [← HZs.out] at HO
      have HF : Hid (exprB ns = true) := by rw [Hid, exprB, HCh.out, HLen.out]; rfl
      have i4 : ¬ (ns.length : Int) < (ns.length : Int) := by omega
      go_wp2
      go_ret2
      exact ⟨.inl ⟨HF.out, _, rfl, HO.out⟩, HB.out⟩
theorem partsOf_no (v : Value) (ns : List NodeD) (w : World) (h : NRow w v ns) (hx : exprB ns = false) :
    Calls Tryz.prog 143 #[.agg #[v]] w fun e w' => e = .returned (.tuple #[.slice none 0 0, faultV 1]) ∧ Below w.heap.size w w' := by
  refine (partsOf_any v ns w h).mono ?_
  rintro e w' ⟨⟨h1, _⟩ | ⟨_, h2⟩, hb⟩
  · rw [hx] at h1; cases h1
  · exact ⟨h2, hb⟩
theorem partsOf_yes (v : Value) (ns : List NodeD) (w : World) (h : NRow w v ns) (hx : exprB ns = true) :
    Calls Tryz.prog 143 #[.agg #[v]] w fun e w' => ∃ o, e = .returned (.tuple #[o, .nilIface]) ∧ OwnP w.heap.size o ns w' ∧ Below w.heap.size w w' := by
  refine (partsOf_any v ns w h).mono ?_
  rintro e w' ⟨⟨_, o, he, ho⟩ | ⟨h1, _⟩, hb⟩
  · exact ⟨o, he, ho, hb⟩
  · rw [hx] at h1; cases h1

set_option maxHeartbeats 1600000 in
theorem implExprOk_any (v : Value) (ns : List NodeD) (w : World) (hg : errTy w) (h : NRow w v ns) :
    Calls Tryz.prog 134 #[.agg #[v]] w fun e w' => e = .returned (.bool (exprB ns)) ∧ Below w.heap.size w w' := by
  have HG : Hid (errTy w) := hg
  have HR : Hid (NRow w v ns) := h
  obtain ⟨a, cap, rfl⟩ := h.slice
  have B0 : Hid (Below w.heap.size w (w.alloc (.cells #[.slice a ns.length cap] 66))) := (Below.refl _ _).alloc (Nat.le_refl _) _
  clear h hg
  cases hx : exprB ns with
  | false =>
    have HP : Hid (∀ W, NRow W (.slice a ns.length cap) ns → _) := fun W hw => partsOf_no (.slice a ns.length cap) ns W hw hx
    clear hx
    go_enter Tryz.func134, Tryz.ntmps134
    go_wp2_with fail
    refine (HP.out _ (HR.out.below B0.out)).mono ?_
    rintro e w1 ⟨rfl, hb1⟩
    have B1 : Hid (Below w.heap.size w w1) := B0.out.trans (hb1.mono B0.out.size)
    clear hb1
    go_wp2_with fail
    refine (faultCode_is 1 _ (HG.out.below B1.out)).mono ?_
    rintro e w2 ⟨rfl, hb2⟩
    have B2 : Hid (Below w.heap.size w w2) := B1.out.trans (hb2.mono B1.out.size)
    clear hb2
    go_wp2
    go_ret
    exact ⟨rfl, B2.out⟩
  | true =>
    have HP : Hid (∀ W, NRow W (.slice a ns.length cap) ns → _) := fun W hw => partsOf_yes (.slice a ns.length cap) ns W hw hx
    clear hx
    go_enter Tryz.func134, Tryz.ntmps134
    go_wp2_with fail
    refine (HP.out _ (HR.out.below B0.out)).mono ?_
    rintro e w1 ⟨o, rfl, _, hb1⟩
    have B1 : Hid (Below w.heap.size w w1) := B0.out.trans (hb1.mono B0.out.size)
    clear hb1
    go_wp2_with fail
    refine (faultCode_nil _).mono ?_
    rintro e w2 ⟨rfl, hb2⟩
    have B2 : Hid (Below w.heap.size w w2) := B1.out.trans (hb2.mono B1.out.size)
    clear hb2
    go_wp2
    go_ret
    exact ⟨rfl, B2.out⟩
end Go.Proofs.YtokidlklkgghkaaGreatDoor

namespace Go.Proofs.YtokidlklkgghkaaGreatDoor
open Go.RowKit

theorem Tryz.ta_num_var (v : Value) (w : World) : (Instr.typeAssert (.iface 184 v) 172 178 true).run Tryz.prog w = .ok (.tuple #[.agg #[.string ⟨#[]⟩], .bool false]) w := by kernel_rfl
theorem Tryz.ta_var_var (v : Value) (w : World) : (Instr.typeAssert (.iface 178 v) 172 178 true).run Tryz.prog w = .ok (.tuple #[v, .bool true]) w := by kernel_rfl
theorem Tryz.ta_here_var (v : Value) (w : World) : (Instr.typeAssert (.iface 185 v) 172 178 true).run Tryz.prog w = .ok (.tuple #[.agg #[.string ⟨#[]⟩], .bool false]) w := by kernel_rfl
theorem Tryz.ta_pair_var (v : Value) (w : World) : (Instr.typeAssert (.iface 188 v) 172 178 true).run Tryz.prog w = .ok (.tuple #[.agg #[.string ⟨#[]⟩], .bool false]) w := by kernel_rfl
theorem Tryz.ta_not_var (v : Value) (w : World) : (Instr.typeAssert (.iface 190 v) 172 178 true).run Tryz.prog w = .ok (.tuple #[.agg #[.string ⟨#[]⟩], .bool false]) w := by kernel_rfl

end Go.Proofs.YtokidlklkgghkaaGreatDoor
