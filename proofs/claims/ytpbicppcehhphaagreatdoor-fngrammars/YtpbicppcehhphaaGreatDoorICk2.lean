/- The specification's l04Size: how great an expression is when it is written out, 201 at most. -/
/- The program's partsOf and ExprOk. -/
/- What a type assertion gives: each kind of part held against each. -/
/- The names of an expression, collected, sorted, each once: the specification's list. The plain mathematics. -/
/- Contracts of the library's functions that this program calls, each by one application of a theorem of the library. -/
/- The program's namesOf and FreeOf: names collected, sorted, each once. -/
/- The program's FreeOf: names collected, sorted, each once. -/
/- The program's checks of grammars: want, checkParams, isSymText, checkArg, checkCall. A check that fails panics with the program's own value. -/
/- The program's isSymText, checkArg and checkCall. -/
import Derived.Test.YtpbicppcehhphaaGreatDoorS11N
import Derived.Test.YtpbicppcehhphaaGreatDoorXPart
import Derived.Test.YtpbicppcehhphaaGreatDoorProg
import Derived.Test.YtpbicppcehhphaaGreatDoorGOk1
import Derived.Test.YtpbicppcehhphaaGreatDoorEnvAsc
import Derived.Test.YtpbicppcehhphaaGreatDoorGRuleOk
import Derived.Test.YtpbicppcehhphaaGreatDoorEnvImpl
import Derived.Test.YtpbicppcehhphaaGreatDoorDecPure
import Derived.Laws.OwnMore
import Derived.Maps.AppendAt
import Derived.WalkKit
import Derived.Lib.SlicesCompact
import Derived.Sort.Walk0
import Derived.Shelf.Small.Strs
import Derived.Shelf.LaysM
import Derived.Shelf.Strconv.Clone
import Derived.Shelf.Strings.Search1
import Derived.Shelf.Slices.CompactS
import Derived.Ground.SlgmProg
import Derived.Shelf.SortM.Plain
import Derived.Shelf.SortM.SortNone
import Derived.Sort.OwnSorted
import Derived.WalkLawsBesides
namespace Go.Proofs.YtpbicppcehhphaaGreatDoor
open Go.RowKit
end Go.Proofs.YtpbicppcehhphaaGreatDoor

namespace Go.Proofs.YtpbicppcehhphaaGreatDoor
open Go.RowKit
set_option maxHeartbeats 3200000
set_option maxRecDepth 100000
def PRow (w : World) (v : Value) (ns : List NodeD) : Prop :=
 ∃ a cap, v = .slice a ns.length cap ∧ (a = none → cap = 0) ∧ (0 < ns.length → ∃ b off, a = some ⟨b, off, none⟩ ∧ b < w.heap.size ∧
  ∀ i (h : i < ns.length), w.cell? ⟨b, off + i, none⟩ = some (partV ns[i]))
theorem PRow.slice {w : World} {v : Value} {ns : List NodeD} (h : PRow w v ns) : ∃ a cap, v = .slice a ns.length cap := by
 obtain ⟨a, cap, rfl, _⟩ := h
 exact ⟨a, cap, rfl⟩
theorem PRow.below {w w' : World} {v : Value} {ns : List NodeD} (h : PRow w v ns) (hb : Below w.heap.size w w') : PRow w' v ns := by
 obtain ⟨a, cap, rfl, hcap, hh⟩ := h
 refine ⟨a, cap, rfl, hcap, fun h0 => ?_⟩
 obtain ⟨b, off, rfl, hlt, hc⟩ := hh h0
 exact ⟨b, off, rfl, Nat.lt_of_lt_of_le hlt hb.size, fun i hi => (World.cell?_of_block (hb.block b hlt)).trans (hc i hi)⟩
theorem PRow.at {w : World} {a : Option Addr} {n cap k : Nat} {ns : List NodeD} (h : PRow w (.slice a n cap) ns) (hk : k < ns.length) :
  ∃ b off, a = some ⟨b, off, none⟩ ∧ w.cell? ⟨b, off + k, none⟩ = some (partV ns[k]) := by
 obtain ⟨a', cap', e, _, hh⟩ := h
 cases e
 obtain ⟨b, off, rfl, _, hc⟩ := hh (by omega)
 exact ⟨b, off, rfl, hc k hk⟩
def OwnP (B : Nat) (v : Value) (ns : List NodeD) (w : World) : Prop := w.ownsRow B 165 1 v ns.length (ns.map partV)
theorem OwnP.row {B : Nat} {v : Value} {ns : List NodeD} {w : World} (h : OwnP B v ns w) : PRow w v ns := by
 rcases h.2 with ⟨rfl, h0⟩ | ⟨g, cap, cur, rfl, hg, hh, hnc, hcp, hcs, htake⟩
 ·exact ⟨none, 0, by rw [h0], fun _ => rfl, fun h => by omega⟩
 ·refine ⟨some ⟨g, 0, none⟩, cap, rfl, (by intro h; cases h), fun _ => ⟨g, 0, rfl, (Array.getElem?_eq_some_iff.1 hh).1, fun i hi => ?_⟩⟩
  rw [Nat.zero_add, World.ownsRow.cellAt h i (by omega)]
  simp [hi]
theorem OwnP.below {B : Nat} {v : Value} {ns : List NodeD} {w w' : World} (h : OwnP B v ns w) (hb : Below w.heap.size w w') : OwnP B v ns w' := own_below h hb
theorem partV_iface (x : NodeD) : ∃ t v, partV x = .iface t v := by
 unfold partV
 split
 ·exact ⟨_, _, rfl⟩
 ·split
  ·exact ⟨_, _, rfl⟩
  ·split
   ·exact ⟨_, _, rfl⟩
   ·split
    ·exact ⟨_, _, rfl⟩
    ·exact ⟨_, _, rfl⟩
theorem one_cellP (t : TypeId) (x : Value) : ∀ u ∈ [Value.iface t x], u.oneCell' = true := by
 intro u hu
 obtain rfl : u = .iface t x := by simpa using hu
 rfl
theorem Tryz.infoPart : (Tryz.prog.info? 165).map (fun i => (i.zero, i.size, i.bytes)) = some (some .nilIface, 1, 16) := by kernel_rfl
theorem ownP_snoc {B : Nat} {o v' : Value} {ns zs : List NodeD} {k : Nat} (hk : k < ns.length) (hz : ns.take k = zs) {t : TypeId} {x : Value} (hx : partV ns[k] = .iface t x) {wr w2 : World} {ob : Obj} (hown2 : w2.ownsRow B 165 1 v' (zs.length + 1) (zs.map partV ++ [.iface t x])) (hown : OwnP B o zs wr) (hgrow : (wr.alloc ob).grownBy w2 o.ownBlock)
  {w : World} (hw : B = w.heap.size) (hb : Below w.heap.size w wr) : OwnP B v' (ns.take (k + 1)) w2 ∧ Below w.heap.size w w2 := by
 subst hw
 refine ⟨?_, ?_⟩
 ·rw [OwnP, List.take_succ_eq_append_getElem hk, hz, List.length_append, List.map_append, List.map_singleton, hx]
  exact hown2
 ·exact (hb.alloc hb.size ob).grown hgrow (by have := hb.size; simp; omega) (fun k hk => (World.ownsRow.lt hown k hk).1)
theorem exprB_len {ns : List NodeD} (h : ¬ (1 ≤ ns.length ∧ ns.length ≤ 20)) : exprB ns = false := by
 cases hx : exprB ns with
 | false => rfl
 | true => exact absurd (exprB_at hx).1 h
theorem partsOf_any (v : Value) (ns : List NodeD) (w : World) (h : NRow w v ns) :
  Calls Tryz.prog 105 #[.agg #[v]] w fun e w' => (exprB ns = true ∧ (∃ o, e = .returned (.tuple #[o, .nilIface]) ∧ OwnP w.heap.size o ns w') ∨ exprB ns = false ∧ e = .returned (.tuple #[.slice none 0 0, faultV 1])) ∧ Below w.heap.size w w' := by
 obtain ⟨i0, hi, hz0, hz1, hz2⟩ := info_parts Tryz.infoPart
 have HR : Hid (NRow w v ns) := h
 obtain ⟨a, cap, rfl⟩ := h.slice
 clear h
 have B0 : Hid (Below w.heap.size w (w.alloc (.cells #[.slice a ns.length cap] 54))) := (Below.refl _ _).alloc (Nat.le_refl _) _
 by_cases hl0 : (ns.length : Int) < 1
 ·have HF : Hid (exprB ns = false) := exprB_len (by omega)
  go_enter Tryz.func105, Tryz.ntmps105
  go_wp2
  go_ret2
  exact ⟨.inr ⟨HF.out, rfl⟩, B0.out⟩
 by_cases hl1 : (20 : Int) < (ns.length : Int)
 ·have HF : Hid (exprB ns = false) := exprB_len (by omega)
  go_enter Tryz.func105, Tryz.ntmps105
  go_wp2
  go_ret2
  exact ⟨.inr ⟨HF.out, rfl⟩, B0.out⟩
 have HLen : Hid (inI (ns.length : Int) 1 20 = true) := by rw [Hid, inI]; exact decide_eq_true (by omega)
 have hl2 : ns.length ≤ 20 := by omega
 go_enter Tryz.func105, Tryz.ntmps105
 go_wp2_with (at_make; refine wpList_make_own _ rfl _ _ 151 rfl w.heap.size 165 i0 _ 1 Tryz.underlying151 hi hz0 hz1 .i64 .i64 _ ns.length rfl rfl rfl (by rw [hz2]; omega) (by unfold maxLen; omega) (by simp) ?_; intro w1 hown1 hg1; have hE1 : w1.cell? ⟨w.heap.size, 0, none⟩ = some (.slice a ns.length cap) := cell_keep (lit_one _ _ _) ((Below.refl _ _).grown hg1 (Nat.le_refl _) (fun k h => by cases h)))
 have HO1 : Hid (OwnP w.heap.size (.slice (some ⟨(w.alloc (.cells #[.slice a ns.length cap] 54)).heap.size, 0, none⟩) 0 ns.length) (ns.take 0) w1) := hown1
 have HB1 : Hid (Below w.heap.size w w1) := B0.out.trans ((Below.refl _ _).grown hg1 (by simp) (fun k h => by cases h))
 clear hown1 hg1 B0
 go_loopw [4, 28] (fun ov iv wr => ∃ k : Nat, iv = .int .i64 k ∧ k ≤ ns.length ∧ nodesF 0 (ns.take k) = true ∧ OwnP w.heap.size ov (ns.take k) wr ∧ Below w.heap.size w wr) (fun _ iv _ => ns.length - (intOf iv).toNat)
 case atStart => exact ⟨0, rfl, Nat.zero_le _, rfl, by simpa using HO1.out, HB1.out⟩
 case round =>
  obtain ⟨k, rfl, hk, hch, hown, hbw⟩ := hrel
  have HCh : Hid (nodesF 0 (ns.take k) = true) := hch
  obtain ⟨zs, hzs⟩ : ∃ zs, ns.take k = zs := ⟨_, rfl⟩
  have HZs : Hid (ns.take k = zs) := hzs
  have HO : Hid (OwnP w.heap.size u4 zs wr) := by rw [Hid, ← hzs]; exact hown
  have htk : zs.length ≤ 20 := by rw [← hzs, List.length_take]; omega
  have HB : Hid (Below w.heap.size w wr) := hbw
  clear hown hbw hch hzs
  by_cases hlt : k < ns.length
  ·obtain ⟨b, off, kv, rfl, n0, n1, n2, n3, hI⟩ := (HR.out.below HB.out).at hlt
   have HNx : Hid (nodesF 0 (ns.take (k + 1)) = (nodesF 0 (ns.take k) && nodeB k ns[k])) := nodesF_next ns k hlt
   have HNo : Hid (nodeB k ns[k] = false → exprB ns = false) := exprB_no hlt
   obtain ⟨t, x, hx⟩ := partV_iface ns[k]
   have HPx : Hid (partV ns[k] = .iface t x) := hx
   obtain ⟨ak, ck, rfl⟩ := hI.slice
   have i4 : (k : Int) < (ns.length : Int) := by omega
   have BW : Hid (Below wr.heap.size wr (wr.alloc (.cells #[.int .i64 ns[k].op, .int .i64 ns[k].num, .string ns[k].name, .slice ak ns[k].kids.length ck] 81))) := (Below.refl _ _).alloc (Nat.le_refl _) _
   have HP : Hid (∀ W, IRow W (.slice ak ns[k].kids.length ck) ns[k].kids → Calls Tryz.prog 114 #[.agg #[.int .i64 ns[k].op, .int .i64 ns[k].num, .string ns[k].name, .slice ak ns[k].kids.length ck], .int .i64 k] W fun e w' => e = .returned (partR k ns[k]) ∧ Below W.heap.size W w') := fun W hw => partOf_any k ns[k].op ns[k].num ns[k].name ns[k].kids _ W hw
   have HI2 : Hid (IRow (wr.alloc (.cells #[.int .i64 ns[k].op, .int .i64 ns[k].num, .string ns[k].name, .slice ak ns[k].kids.length ck] 81)) (.slice ak ns[k].kids.length ck) ns[k].kids) := hI.below BW.out
   clear hI hx
   cases hnb : nodeB k ns[k] with
   | false =>
    have HPR : Hid (_ = _) := partR_no hnb
    have HF : Hid (exprB ns = false) := HNo.out hnb
    clear hnb
    go_wp2_with fail
    refine (HP.out _ HI2.out).mono ?_
    rw [HPR.out]
    rintro e w2 ⟨rfl, hb2⟩
    have B1 : Hid (Below wr.heap.size wr w2) := BW.out.trans (hb2.mono BW.out.size)
    clear hb2
    go_wp2
    go_ret2
    exact ⟨.inr ⟨HF.out, rfl⟩, HB.out.trans (B1.out.mono HB.out.size)⟩
   | true =>
    have HPR : Hid (partR k ns[k] = .tuple #[.iface t x, .nilIface]) := by rw [Hid, partR_yes hnb, HPx.out]
    have HY : Hid (nodesF 0 (ns.take (k + 1)) = true) := by rw [Hid, HNx.out, HCh.out, hnb]; rfl
    clear hnb
    go_wp2_with fail
    refine (HP.out _ HI2.out).mono ?_
    rw [HPR.out]
    rintro e w2 ⟨rfl, hb2⟩
    have B1 : Hid (Below wr.heap.size wr w2) := BW.out.trans (hb2.mono BW.out.size)
    have HO2 : Hid (OwnP w.heap.size u4 zs w2) := HO.out.below B1.out
    have HB2 : Hid (Below w.heap.size w w2) := HB.out.trans (B1.out.mono HB.out.size)
    clear hb2
    go_wp2_with (at_builtin; refine wpList_append_own _ rfl _ _ 151 rfl w.heap.size 165 i0 _ 1 16 Tryz.underlying151 hi hz0 hz1 hz2 rfl (by decide) _ _ _ rfl (World.ownsRow.alloc HO2.out _) ⟨_, 0, none⟩ 1 1 [.iface t x] rfl rfl (cell_one_new _ _ _) (one_cellP _ _) (by unfold maxLen; omega) (by omega) (by have h8 := HB2.out.size; simp; omega) ?_)
    intro v' w3 hown3 hgrow _
    have R := ownP_snoc hlt HZs.out HPx.out hown3 HO2.out hgrow rfl HB2.out
    clear hown3 hgrow
    go_wp2
    go_roundw
    case rel => exact ⟨k + 1, by go_num, by omega, HY.out, R.1, R.2⟩
    case measure => simp [intOf]; omega
  ·obtain rfl : k = ns.length := by omega
   rw [List.take_of_length_le (Nat.le_refl _)] at HCh HZs
   rw [← HZs.out] at HO
   have HF : Hid (exprB ns = true) := by rw [Hid, exprB, HCh.out, HLen.out]; rfl
   have i4 : ¬ (ns.length : Int) < (ns.length : Int) := by omega
   go_wp2
   go_ret2
   exact ⟨.inl ⟨HF.out, _, rfl, HO.out⟩, HB.out⟩
theorem partsOf_no (v : Value) (ns : List NodeD) (w : World) (h : NRow w v ns) (hx : exprB ns = false) :
  Calls Tryz.prog 105 #[.agg #[v]] w fun e w' => e = .returned (.tuple #[.slice none 0 0, faultV 1]) ∧ Below w.heap.size w w' := by
 refine (partsOf_any v ns w h).mono ?_
 rintro e w' ⟨⟨h1, _⟩ | ⟨_, h2⟩, hb⟩
 ·rw [hx] at h1; cases h1
 ·exact ⟨h2, hb⟩
theorem partsOf_yes (v : Value) (ns : List NodeD) (w : World) (h : NRow w v ns) (hx : exprB ns = true) :
  Calls Tryz.prog 105 #[.agg #[v]] w fun e w' => ∃ o, e = .returned (.tuple #[o, .nilIface]) ∧ OwnP w.heap.size o ns w' ∧ Below w.heap.size w w' := by
 refine (partsOf_any v ns w h).mono ?_
 rintro e w' ⟨⟨_, o, he, ho⟩ | ⟨h1, _⟩, hb⟩
 ·exact ⟨o, he, ho, hb⟩
 ·rw [hx] at h1; cases h1
theorem implExprOk_any (v : Value) (ns : List NodeD) (w : World) (hg : errTy w) (h : NRow w v ns) :
  Calls Tryz.prog 93 #[.agg #[v]] w fun e w' => e = .returned (.bool (exprB ns)) ∧ Below w.heap.size w w' := by
 have HG : Hid (errTy w) := hg
 have HR : Hid (NRow w v ns) := h
 obtain ⟨a, cap, rfl⟩ := h.slice
 have B0 : Hid (Below w.heap.size w (w.alloc (.cells #[.slice a ns.length cap] 54))) := (Below.refl _ _).alloc (Nat.le_refl _) _
 clear h hg
 cases hx : exprB ns with
 | false =>
  have HP : Hid (∀ W, NRow W (.slice a ns.length cap) ns → _) := fun W hw => partsOf_no (.slice a ns.length cap) ns W hw hx
  clear hx
  go_enter Tryz.func93, Tryz.ntmps93
  go_wp2_with fail
  refine (HP.out _ (HR.out.below B0.out)).mono ?_
  rintro e w1 ⟨rfl, hb1⟩
  have B1 : Hid (Below w.heap.size w w1) := B0.out.trans (hb1.mono B0.out.size)
  clear hb1
  go_wp2_with fail
  refine (faultCode_is 1 _ (HG.out.below B1.out)).mono ?_
  rintro e w2 ⟨rfl, hb2⟩
  have B2 : Hid (Below w.heap.size w w2) := B1.out.trans (hb2.mono B1.out.size)
  clear hb2
  go_wp2
  go_ret
  exact ⟨rfl, B2.out⟩
 | true =>
  have HP : Hid (∀ W, NRow W (.slice a ns.length cap) ns → _) := fun W hw => partsOf_yes (.slice a ns.length cap) ns W hw hx
  clear hx
  go_enter Tryz.func93, Tryz.ntmps93
  go_wp2_with fail
  refine (HP.out _ (HR.out.below B0.out)).mono ?_
  rintro e w1 ⟨o, rfl, _, hb1⟩
  have B1 : Hid (Below w.heap.size w w1) := B0.out.trans (hb1.mono B0.out.size)
  clear hb1
  go_wp2_with fail
  refine (faultCode_nil _).mono ?_
  rintro e w2 ⟨rfl, hb2⟩
  have B2 : Hid (Below w.heap.size w w2) := B1.out.trans (hb2.mono B1.out.size)
  clear hb2
  go_wp2
  go_ret
  exact ⟨rfl, B2.out⟩
end Go.Proofs.YtpbicppcehhphaaGreatDoor

namespace Go.Proofs.YtpbicppcehhphaaGreatDoor
open Go.RowKit
theorem Tryz.ta_num_var (v : Value) (w : World) : (Instr.typeAssert (.iface 178 v) 165 171 true).run Tryz.prog w = .ok (.tuple #[.agg #[.string ⟨#[]⟩], .bool false]) w := by kernel_rfl
theorem Tryz.ta_var_var (v : Value) (w : World) : (Instr.typeAssert (.iface 171 v) 165 171 true).run Tryz.prog w = .ok (.tuple #[v, .bool true]) w := by kernel_rfl
theorem Tryz.ta_here_var (v : Value) (w : World) : (Instr.typeAssert (.iface 179 v) 165 171 true).run Tryz.prog w = .ok (.tuple #[.agg #[.string ⟨#[]⟩], .bool false]) w := by kernel_rfl
theorem Tryz.ta_pair_var (v : Value) (w : World) : (Instr.typeAssert (.iface 182 v) 165 171 true).run Tryz.prog w = .ok (.tuple #[.agg #[.string ⟨#[]⟩], .bool false]) w := by kernel_rfl
theorem Tryz.ta_not_var (v : Value) (w : World) : (Instr.typeAssert (.iface 184 v) 165 171 true).run Tryz.prog w = .ok (.tuple #[.agg #[.string ⟨#[]⟩], .bool false]) w := by kernel_rfl
end Go.Proofs.YtpbicppcehhphaaGreatDoor

namespace Go.Proofs.YtpbicppcehhphaaGreatDoor
open Go.RowKit
abbrev leL (x y : List UInt8) : Bool := decide (x ≤ y)
theorem lt_of_le_ne {x y : List UInt8} (h : x ≤ y) (hne : x ≠ y) : x < y := by
 rcases Decidable.em (x < y) with h1 | h1
 ·exact h1
 ·exact absurd (List.le_antisymm h (List.not_lt.1 h1)) hne
theorem compact_asc (d : Array (List UInt8)) (n : Nat) (hs : ∀ i j, i ≤ j → j < n → d[i]! ≤ d[j]!) : ∀ m, m ≤ n →
  (Lib.compactUpTo d m).Pairwise (fun x y => x < y) ∧ ∀ x, x ∈ Lib.compactUpTo d m ↔ ∃ j, j < m ∧ x = d[j]!
 | 0, _ => by simp [Lib.compactUpTo]
 | m + 1, hm => by
  obtain ⟨h1, h2⟩ := compact_asc d n hs m (by omega)
  rw [Lib.compactUpTo_succ]
  by_cases hk : Lib.keeps d m = true
  ·rw [if_pos hk]
   refine ⟨List.pairwise_append.2 ⟨h1, by simp, fun x hx y hy => ?_⟩, fun x => ?_⟩
   ·obtain rfl : y = d[m]! := by simpa using hy
    obtain ⟨j, hj, rfl⟩ := (h2 x).1 hx
    have hne : d[m]! ≠ d[m - 1]! := by
     have := of_decide_eq_true hk
     rcases this with h | h
     ·omega
     ·exact h
    have hlt := lt_of_le_ne (hs (m - 1) m (by omega) (by omega)) (fun e => hne e.symm)
    exact List.lt_of_le_of_lt (hs j (m - 1) (by omega) (by omega)) hlt
   ·rw [List.mem_append, h2 x, List.mem_singleton]
    constructor
    ·rintro (⟨j, hj, e⟩ | e)
     ·exact ⟨j, by omega, e⟩
     ·exact ⟨m, by omega, e⟩
    ·rintro ⟨j, hj, e⟩
     by_cases h : j = m
     ·subst h; exact .inr e
     ·exact .inl ⟨j, by omega, e⟩
  ·rw [if_neg hk, List.append_nil]
   refine ⟨h1, fun x => ?_⟩
   rw [h2 x]
   constructor
   ·rintro ⟨j, hj, e⟩
    exact ⟨j, by omega, e⟩
   ·rintro ⟨j, hj, e⟩
    by_cases h : j = m
    ·subst h
     have hd : ¬ (j = 0 ∨ d[j]! ≠ d[j - 1]!) := fun h => hk (decide_eq_true h)
     have h0 : j ≠ 0 := fun h => hd (.inl h)
     have he : d[j]! = d[j - 1]! := Decidable.not_not.1 fun h => hd (.inr h)
     exact ⟨j - 1, by omega, by rw [e, he]⟩
    ·exact ⟨j, by omega, e⟩
theorem get_toArray (zs : List (List UInt8)) (j : Nat) (h : j < zs.length) : zs.toArray[j]! = zs[j] := by
 rw [getElem!_pos _ _ (by simpa using h)]
 simp
theorem compact_sorted (zs : List (List UInt8)) : (Lib.compact (zs.mergeSort leL)).Pairwise (fun x y => x < y) ∧ ∀ x, x ∈ Lib.compact (zs.mergeSort leL) ↔ x ∈ zs := by
 have tr : ∀ a b c : List UInt8, leL a b = true → leL b c = true → leL a c = true := fun a b c h1 h2 => by simp only [leL, decide_eq_true_eq] at *; exact List.le_trans h1 h2
 have to : ∀ a b : List UInt8, (leL a b || leL b a) = true := fun a b => by simp only [leL, Bool.or_eq_true, decide_eq_true_eq]; exact List.le_total a b
 have hp := List.pairwise_mergeSort tr to zs
 have hperm := List.mergeSort_perm zs leL
 generalize zs.mergeSort leL = ys at *
 have hs : ∀ i j, i ≤ j → j < ys.length → ys.toArray[i]! ≤ ys.toArray[j]! := fun i j hij hj => by
  rw [get_toArray _ _ (by omega), get_toArray _ _ hj]
  by_cases e : i = j
  ·subst e; exact List.le_refl _
  ·have := List.pairwise_iff_getElem.1 hp i j (by omega) hj (by omega)
   simpa [leL] using this
 obtain ⟨h1, h2⟩ := compact_asc ys.toArray ys.length hs ys.length (Nat.le_refl _)
 refine ⟨h1, fun x => ?_⟩
 rw [Lib.compact, h2 x, ← hperm.mem_iff]
 constructor
 ·rintro ⟨j, hj, rfl⟩
  rw [get_toArray _ _ hj]
  exact List.getElem_mem hj
 ·intro hx
  obtain ⟨j, hj, rfl⟩ := List.getElem_of_mem hx
  exact ⟨j, hj, (get_toArray _ _ hj).symm⟩
theorem asc_same {l m : List (List UInt8)} (hl : l.Pairwise (fun x y => x < y)) (hm : m.Pairwise (fun x y => x < y)) (h : ∀ x, x ∈ l ↔ x ∈ m) : l = m := by
 have nd : ∀ {l : List (List UInt8)}, l.Pairwise (fun x y => x < y) → l.Nodup := fun h => h.imp fun {a b} hab e => by subst e; exact List.lt_irrefl _ hab
 refine List.Perm.eq_of_pairwise (le := fun a b => a < b) (fun a b _ _ h1 h2 => absurd (List.lt_trans h1 h2) (List.lt_irrefl _)) hl hm ((List.perm_ext_iff_of_nodup (nd hl) (nd hm)).2 h)
theorem ltS_iff (a b : ByteArray) : ltS a b = true ↔ a.data.toList < b.data.toList := by
 rw [ltS, bytesLess_eq, decide_eq_true_eq, ByteArray.toList_eq, ByteArray.toList_eq]
def AscS (ss : List ByteArray) : Prop := ss.Pairwise fun a b => ltS a b = true
theorem mem_putS {ss : List ByteArray} {s x : ByteArray} : x ∈ putS ss s ↔ x ∈ ss ∨ x = s := by
 rw [putS, List.mem_append, List.mem_append, List.mem_filter, List.mem_filter, List.mem_singleton]
 constructor
 ·rintro ((h | h) | h)
  ·exact .inl h.1
  ·exact .inr h
  ·exact .inl h.1
 ·rintro (h | h)
  ·rcases lt_tri x s with h1 | h1 | h1
   ·exact .inl (.inl ⟨h, h1⟩)
   ·exact .inl (.inr h1)
   ·exact .inr ⟨h, by rw [gt_iff]; exact h1⟩
  ·exact .inl (.inr h)
theorem ascS_put {ss : List ByteArray} (h : AscS ss) (s : ByteArray) : AscS (putS ss s) := by
 rw [putS]
 refine List.pairwise_append.2 ⟨List.pairwise_append.2 ⟨h.filter _, by simp, fun x hx y hy => ?_⟩, h.filter _, fun x hx y hy => ?_⟩
 ·obtain rfl : y = s := by simpa using hy
  exact (List.mem_filter.1 hx).2
 ·have hy2 : ltS s y = true := by rw [← gt_iff]; exact (List.mem_filter.1 hy).2
  rcases List.mem_append.1 hx with hx | hx
  ·exact lt_trans' (List.mem_filter.1 hx).2 hy2
  ·obtain rfl : x = s := by simpa using hx
   exact hy2
def namesF (ns : List NodeD) : List ByteArray := (ns.filter fun x => decide (x.op = 2)).map fun x => x.name
theorem namesF_next (ns : List NodeD) (k : Nat) (h : k < ns.length) : namesF (ns.take (k + 1)) = namesF (ns.take k) ++ (if ns[k].op = 2 then [ns[k].name] else []) := by
 rw [List.take_succ_eq_append_getElem h, namesF, List.filter_append, List.map_append, ← namesF]
 congr 1
 rw [List.filter_cons, List.filter_nil]
 by_cases e : ns[k].op = 2
 ·simp [e]
 ·simp [e]
theorem namesF_len (ns : List NodeD) : (namesF ns).length ≤ ns.length := by
 rw [namesF, List.length_map]
 exact List.length_filter_le ..
theorem freeF_asc (ns : List NodeD) : ∀ k, k ≤ ns.length → AscS (freeF (ns.take k)) ∧ ∀ x, x ∈ freeF (ns.take k) ↔ x ∈ namesF (ns.take k)
 | 0, _ => ⟨List.Pairwise.nil, fun x => by simp [freeF, namesF]⟩
 | k + 1, h => by
  obtain ⟨h1, h2⟩ := freeF_asc ns k (by omega)
  rw [freeF_next ns k (by omega), namesF_next ns k (by omega)]
  by_cases e : ns[k].op = 2
  ·rw [if_pos e, if_pos e]
   exact ⟨ascS_put h1 _, fun x => by rw [mem_putS, h2 x, List.mem_append, List.mem_singleton]⟩
  ·rw [if_neg e, if_neg e, List.append_nil]
   exact ⟨h1, h2⟩
theorem free_compact (ns : List NodeD) : Lib.compact (((namesF ns).map fun s => s.data.toList).mergeSort leL) = (freeF ns).map fun s => s.data.toList := by
 obtain ⟨h1, h2⟩ := compact_sorted ((namesF ns).map fun s => s.data.toList)
 obtain ⟨h3, h4⟩ := freeF_asc ns ns.length (Nat.le_refl _)
 rw [List.take_of_length_le (Nat.le_refl _)] at h3 h4
 refine asc_same h1 (List.pairwise_map.2 (h3.imp fun {a b} hab => (ltS_iff a b).1 hab)) fun x => ?_
 rw [h2 x, List.mem_map, List.mem_map]
 exact ⟨fun ⟨s, hs, e⟩ => ⟨s, (h4 s).2 hs, e⟩, fun ⟨s, hs, e⟩ => ⟨s, (h4 s).1 hs, e⟩⟩
end Go.Proofs.YtpbicppcehhphaaGreatDoor

namespace Go.Proofs
open Go.Shelf
def Tryz.lays137_ren : Go.Shelf.Ren := ⟨fun | 137 => 90 | 217 => 101 | 266 => 112 | n => n, fun | 9 => 9 | 5 => 5 | 3 => 3 | n => n, fun | n => n⟩
theorem Tryz.lays137 : Go.Proofs.Lays.n137 Tryz.prog Tryz.lays137_ren := {
 mixed := by kernel_rfl
 f137 := Tryz.func90.trans (congrArg some (by kernel_rfl))
 f217 := Tryz.func101.trans (congrArg some (by kernel_rfl))
 f266 := Tryz.func112.trans (congrArg some (by kernel_rfl))
 t3 := Tryz.underlying3
 a3 := Tryz.isAgg3
 z3 := Tryz.sizeOf3
 v3 := Tryz.zeroValue3
 t5 := Tryz.underlying5
 a5 := Tryz.isAgg5
 z5 := Tryz.sizeOf5
 v5 := Tryz.zeroValue5
 t9 := Tryz.underlying9
 a9 := Tryz.isAgg9
 z9 := Tryz.sizeOf9
 v9 := Tryz.zeroValue9 }
open Go.RowKit in
theorem Tryz.strings_IndexByte (s : ByteArray) (c : Int) (w : World) :
  Calls Tryz.prog 90 #[.string s, .int .u8 c] w fun e w' => e = .returned (.int .i64 (Lib.indexByte s.data.toList c.toNat.toUInt8)) ∧ w' = w := Any.strings_IndexByte Tryz.lays137 s c w
def Tryz.laysM316_ren : Go.Shelf.Ren := ⟨fun | 316 => 126 | n => n, fun | 9 => 9 | 3 => 3 | 4 => 4 | 37 => 22 | 0 => 0 | 127 => 224 | 5 => 5 | n => n, fun | n => n⟩
theorem Tryz.laysM316 : Go.Proofs.LaysM.n316 Tryz.prog Tryz.laysM316_ren := {
 mixed := by kernel_rfl
 f316 := Tryz.func126.trans (congrArg some (by kernel_rfl))
 t0 := Tryz.underlying0
 a0 := Tryz.isAgg0
 z0 := Tryz.sizeOf0
 v0 := Tryz.zeroValue0
 t3 := Tryz.underlying3
 a3 := Tryz.isAgg3
 z3 := Tryz.sizeOf3
 v3 := Tryz.zeroValue3
 t4 := Tryz.underlying4
 a4 := Tryz.isAgg4
 z4 := Tryz.sizeOf4
 v4 := Tryz.zeroValue4
 t9 := Tryz.underlying9
 a9 := Tryz.isAgg9
 z9 := Tryz.sizeOf9
 v9 := Tryz.zeroValue9
 t37 := Tryz.underlying22
 a37 := Tryz.isAgg22
 z37 := Tryz.sizeOf22
 v37 := Tryz.zeroValue22
 t127 := Tryz.underlying224
 a127 := Tryz.isAgg224
 z127 := Tryz.sizeOf224
 v127 := Tryz.zeroValue224
 t5 := Tryz.underlying5
 a5 := Tryz.isAgg5
 z5 := Tryz.sizeOf5
 v5 := Tryz.zeroValue5
 i0 := by kernel_rfl
 i3 := by kernel_rfl
 i4 := by kernel_rfl
 i5 := by kernel_rfl
 i9 := by kernel_rfl
 i37 := by kernel_rfl
 i127 := by kernel_rfl }
open Go.RowKit in
theorem Tryz.stringslite_Clone (s : ByteArray) (w : World) (hlim : s.size ≤ 281474976710656) :
  Calls Tryz.prog 126 #[.string s] w fun e w' => e = .returned (.string s) ∧ Below w.heap.size w w' := Any.stringslite_Clone Tryz.laysM316 s w hlim
def Tryz.lays194_ren : Go.Shelf.Ren := ⟨fun | 194 => 109 | n => n, fun | 31 => 34 | 9 => 9 | 3 => 3 | 4 => 4 | 0 => 0 | n => n, fun | n => n⟩
theorem Tryz.lays194 : Go.Proofs.Lays.n194 Tryz.prog Tryz.lays194_ren := {
 mixed := by kernel_rfl
 f194 := Tryz.func109.trans (congrArg some (by kernel_rfl))
 t0 := Tryz.underlying0
 a0 := Tryz.isAgg0
 z0 := Tryz.sizeOf0
 v0 := Tryz.zeroValue0
 t3 := Tryz.underlying3
 a3 := Tryz.isAgg3
 z3 := Tryz.sizeOf3
 v3 := Tryz.zeroValue3
 t4 := Tryz.underlying4
 a4 := Tryz.isAgg4
 z4 := Tryz.sizeOf4
 v4 := Tryz.zeroValue4
 t9 := Tryz.underlying9
 a9 := Tryz.isAgg9
 z9 := Tryz.sizeOf9
 v9 := Tryz.zeroValue9
 t31 := Tryz.underlying34
 a31 := Tryz.isAgg34
 z31 := Tryz.sizeOf34
 v31 := Tryz.zeroValue34 }
open Go.RowKit Go.Lib Go.Sort in
theorem Tryz.slices_Compact_string (blk off cap : Nat) (zs : List (List UInt8)) (w : World) (hH : Holds encStr w blk off zs.toArray) (hsz : zs.length ≤ 9223372036854775807) (hcap : zs.length ≤ cap) :
  Calls Tryz.prog 109 #[.slice (some ⟨blk, off, none⟩) zs.length cap] w fun e w' => e = .returned (.slice (some ⟨blk, off, none⟩) (Lib.compact zs).length cap) ∧ ∃ q, w' = putRow encStr (Sort.ahead w q) blk off (Lib.compact zs ++ List.replicate (zs.length - (Lib.compact zs).length) []).toArray := Any.slices_Compact_string Tryz.lays194 blk off cap zs w hH hsz hcap
open Go.RowKit Go.Lib Go.Sort in
theorem Tryz.slices_Compact_string_empty (a : Option Addr) (cap : Nat) (w : World) :
  Calls Tryz.prog 109 #[.slice a 0 cap] w fun e w' => e = .returned (.slice a 0 cap) ∧ w' = w := Any.slices_Compact_string_empty Tryz.lays194 a cap w
def Tryz.laysSlM6_f108_ren : Go.Shelf.Ren := ⟨fun | 6 => 108 | 8 => 118 | 9 => 117 | 19 => 136 | 20 => 137 | 21 => 127 | 22 => 128 | 23 => 129 | 24 => 130 | 25 => 131 | 26 => 132 | 27 => 133 | 28 => 134 | 29 => 135 | 36 => 143 | 31 => 144 | 32 => 145 | 37 => 146 | 38 => 147 | 39 => 148 | 41 => 150 | n => n, fun | 27 => 34 | 29 => 9 | 3 => 3 | 32 => 107 | 26 => 34 | 0 => 0 | 44 => 207 | 46 => 139 | 4 => 4 | 36 => 200 | 35 => 199 | 41 => 131 | 5 => 5 | 9 => 9 | 53 => 225 | 57 => 229 | 63 => 231 | 64 => 232 | n => n, fun | n => n⟩
theorem Tryz.laysSlM6_f108 : Go.Proofs.SlLaysM.n6 Tryz.prog Tryz.laysSlM6_f108_ren := {
 mixed := by kernel_rfl
 f6 := ⟨Tryz.f108.name, by decide, Tryz.func108.trans (congrArg some (by kernel_rfl))⟩
 f8 := Tryz.func118.trans (congrArg some (by kernel_rfl))
 f9 := ⟨Tryz.f117.name, by decide, Tryz.func117.trans (congrArg some (by kernel_rfl))⟩
 f19 := Tryz.func136.trans (congrArg some (by kernel_rfl))
 f20 := Tryz.func137.trans (congrArg some (by kernel_rfl))
 f21 := ⟨Tryz.f127.name, by decide, Tryz.func127.trans (congrArg some (by kernel_rfl))⟩
 f22 := ⟨Tryz.f128.name, by decide, Tryz.func128.trans (congrArg some (by kernel_rfl))⟩
 f23 := ⟨Tryz.f129.name, by decide, Tryz.func129.trans (congrArg some (by kernel_rfl))⟩
 f24 := ⟨Tryz.f130.name, by decide, Tryz.func130.trans (congrArg some (by kernel_rfl))⟩
 f25 := ⟨Tryz.f131.name, by decide, Tryz.func131.trans (congrArg some (by kernel_rfl))⟩
 f26 := ⟨Tryz.f132.name, by decide, Tryz.func132.trans (congrArg some (by kernel_rfl))⟩
 f27 := ⟨Tryz.f133.name, by decide, Tryz.func133.trans (congrArg some (by kernel_rfl))⟩
 f28 := ⟨Tryz.f134.name, by decide, Tryz.func134.trans (congrArg some (by kernel_rfl))⟩
 f29 := ⟨Tryz.f135.name, by decide, Tryz.func135.trans (congrArg some (by kernel_rfl))⟩
 f31 := Tryz.func144.trans (congrArg some (by kernel_rfl))
 f32 := Tryz.func145.trans (congrArg some (by kernel_rfl))
 f36 := ⟨Tryz.f143.name, by decide, Tryz.func143.trans (congrArg some (by kernel_rfl))⟩
 f37 := ⟨Tryz.f146.name, by decide, Tryz.func146.trans (congrArg some (by kernel_rfl))⟩
 f38 := ⟨Tryz.f147.name, by decide, Tryz.func147.trans (congrArg some (by kernel_rfl))⟩
 f39 := ⟨Tryz.f148.name, by decide, Tryz.func148.trans (congrArg some (by kernel_rfl))⟩
 f41 := ⟨Tryz.f150.name, by decide, Tryz.func150.trans (congrArg some (by kernel_rfl))⟩
 t0 := Tryz.underlying0
 a0 := Tryz.isAgg0
 z0 := Tryz.sizeOf0
 v0 := Tryz.zeroValue0
 t3 := Tryz.underlying3
 a3 := Tryz.isAgg3
 z3 := Tryz.sizeOf3
 v3 := Tryz.zeroValue3
 t4 := Tryz.underlying4
 a4 := Tryz.isAgg4
 z4 := Tryz.sizeOf4
 v4 := Tryz.zeroValue4
 t5 := Tryz.underlying5
 a5 := Tryz.isAgg5
 z5 := Tryz.sizeOf5
 v5 := Tryz.zeroValue5
 t9 := Tryz.underlying9
 a9 := Tryz.isAgg9
 z9 := Tryz.sizeOf9
 v9 := Tryz.zeroValue9
 t26 := Tryz.underlying34
 a26 := Tryz.isAgg34
 z26 := Tryz.sizeOf34
 v26 := Tryz.zeroValue34
 t27 := Tryz.underlying34
 a27 := Tryz.isAgg34
 z27 := Tryz.sizeOf34
 v27 := Tryz.zeroValue34
 t29 := Tryz.underlying9
 a29 := Tryz.isAgg9
 z29 := Tryz.sizeOf9
 v29 := Tryz.zeroValue9
 t32 := Tryz.underlying107
 a32 := Tryz.isAgg107
 z32 := Tryz.sizeOf107
 v32 := Tryz.zeroValue107
 t35 := Tryz.underlying199
 a35 := Tryz.isAgg199
 z35 := Tryz.sizeOf199
 v35 := Tryz.zeroValue199
 t36 := Tryz.underlying200
 a36 := Tryz.isAgg200
 z36 := Tryz.sizeOf200
 v36 := Tryz.zeroValue200
 t41 := Tryz.underlying131
 a41 := Tryz.isAgg131
 z41 := Tryz.sizeOf131
 v41 := Tryz.zeroValue131
 t44 := Tryz.underlying207
 a44 := Tryz.isAgg207
 z44 := Tryz.sizeOf207
 v44 := Tryz.zeroValue207
 t46 := Tryz.underlying139
 a46 := Tryz.isAgg139
 z46 := Tryz.sizeOf139
 v46 := Tryz.zeroValue139
 t53 := Tryz.underlying225
 a53 := Tryz.isAgg225
 z53 := Tryz.sizeOf225
 v53 := Tryz.zeroValue225
 t57 := Tryz.underlying229
 a57 := Tryz.isAgg229
 z57 := Tryz.sizeOf229
 v57 := Tryz.zeroValue229
 t63 := Tryz.underlying231
 a63 := Tryz.isAgg231
 z63 := Tryz.sizeOf231
 v63 := Tryz.zeroValue231
 t64 := Tryz.underlying232
 a64 := Tryz.isAgg232
 z64 := Tryz.sizeOf232
 v64 := Tryz.zeroValue232 }
open Go.Sort Go.RowKit in
theorem Tryz.slices_Sort_string (blk off cap : Nat) (ss : List (List UInt8)) (w : World) (hH : Holds encStr w blk off ss.toArray) (hblk : blk < w.heap.size) (hsz : ss.length < 4611686018427387904) :
  Calls Tryz.prog 108 #[.slice (some ⟨blk, off, none⟩) ss.length cap] w fun e w' =>
   e = .returned (.tuple #[]) ∧ ∃ n os, w' = grow (putRow encStr (Sort.ahead w n) blk off (ss.mergeSort fun x y => decide (x ≤ y)).toArray) os := AnyM.slices_Sort_string Tryz.laysSlM6_f108 blk off cap ss w hH hblk hsz
open Go.RowKit Go.Sort in
theorem Tryz.slices_Sort_string_none (p : Option Addr) (cap : Nat) (w : World) :
  Calls Tryz.prog 108 #[.slice p 0 cap] w fun e w' => e = .returned (.tuple #[]) ∧ w' = w := AnyM.slices_Sort_string_none Tryz.laysSlM6_f108 p cap w
end Go.Proofs

namespace Go.Proofs.YtpbicppcehhphaaGreatDoor
open Go.RowKit
set_option maxHeartbeats 1600000
set_option maxRecDepth 100000
theorem cloneS (s : ByteArray) (w : World) (hz : s.size ≤ 1048576) :
  Calls Tryz.prog 116 #[.string s] w fun e w' => e = .returned (.string s) ∧ Below w.heap.size w w' := by
 have HC : Hid (∀ W, _) := fun W => Tryz.stringslite_Clone s W (by omega)
 go_enter Tryz.func116, Tryz.ntmps116
 go_wp2_with (go_at_call 126; refine (HC.out _).mono ?_; rintro e w1 ⟨rfl, hb1⟩)
 go_ret
 exact ⟨rfl, hb1⟩
theorem part_noVar {x : NodeD} (h2 : ¬ x.op = 2) : ∃ (t : TypeId) (pv : Value), partV x = .iface t pv ∧ ∀ W, (Instr.typeAssert (.iface t pv) 165 171 true).run Tryz.prog W = .ok (.tuple #[.agg #[.string ⟨#[]⟩], .bool false]) W := by
 by_cases o1 : x.op = 1
 ·exact ⟨_, _, by rw [partV, if_pos o1], fun W => Tryz.ta_num_var _ W⟩
 by_cases o3 : x.op = 3
 ·exact ⟨_, _, by rw [partV, if_neg o1, if_neg h2, if_pos o3], fun W => Tryz.ta_here_var _ W⟩
 by_cases o11 : x.op = 11
 ·exact ⟨_, _, by rw [partV, if_neg o1, if_neg h2, if_neg o3, if_pos o11], fun W => Tryz.ta_not_var _ W⟩
 ·exact ⟨_, _, by rw [partV, if_neg o1, if_neg h2, if_neg o3, if_neg o11], fun W => Tryz.ta_pair_var _ W⟩
theorem name_size {i : Nat} {x : NodeD} (h : nodeB i x = true) (h2 : x.op = 2) : x.name.size ≤ 4 := by
 obtain ⟨_, _, hf, _⟩ := node_parts h
 rw [fieldsB, Bool.and_eq_true, if_pos h2, nameB, Bool.and_eq_true, decide_eq_true_eq] at hf
 exact hf.2.2.2
theorem namesOf_any (v : Value) (ns : List NodeD) (w : World) (hx : exprB ns = true) (h : PRow w v ns) :
  Calls Tryz.prog 107 #[v] w fun e w' => ∃ o, e = .returned o ∧ OwnB w.heap.size o (namesF ns) w' ∧ Below w.heap.size w w' := by
 obtain ⟨i0, hi, hz0, hz1, hz2⟩ := info_parts Tryz.infoStr
 obtain ⟨⟨hl1, hl2⟩, hnode⟩ := exprB_at hx
 have HNd : Hid (∀ k (hk : k < ns.length), nodeB k ns[k] = true) := hnode
 have HR : Hid (PRow w v ns) := h
 obtain ⟨a, cap, rfl⟩ := h.slice
 clear h hnode hx
 have O0 : Hid (OwnB w.heap.size (.slice (some ⟨w.heap.size, 0, none⟩) 0 0) (namesF (ns.take 0)) (w.alloc (.cells #[] 9))) := World.ownsRow_made (base := w.heap.size) w #[] 0 (e := 9) (size := 1) (Nat.le_refl _) (by decide) rfl
 go_enter Tryz.func107, Tryz.ntmps107
 go_wp2
 go_loopw [3, 11] (fun ov iv wr => ∃ k : Nat, iv = .int .i64 k ∧ k ≤ ns.length ∧ OwnB w.heap.size ov (namesF (ns.take k)) wr ∧ Below w.heap.size w wr) (fun _ iv _ => ns.length - (intOf iv).toNat)
 case atStart => exact ⟨0, rfl, Nat.zero_le _, O0.out, (Below.refl _ _).alloc (Nat.le_refl _) _⟩
 case round =>
  obtain ⟨k, rfl, hk, hown, hbw⟩ := hrel
  have HO : Hid (OwnB w.heap.size u3 (namesF (ns.take k)) wr) := hown
  have HB : Hid (Below w.heap.size w wr) := hbw
  clear hown hbw
  by_cases hlt : k < ns.length
  ·obtain ⟨b, off, rfl, hpc⟩ := (HR.out.below HB.out).at hlt
   have HNx : Hid (_ = _) := namesF_next ns k hlt
   have hnl : (namesF (ns.take k)).length ≤ 20 := by
    have h1 := namesF_len (ns.take k)
    rw [List.length_take] at h1
    omega
   have i4 : (k : Int) < (ns.length : Int) := by omega
   generalize namesF (ns.take k) = zs at *
   by_cases o2 : ns[k].op = 2
   ·have HNx2 : Hid (namesF (ns.take (k + 1)) = zs ++ [ns[k].name]) := by have := HNx.out; rwa [if_pos o2] at this
    have hp : partV ns[k] = .iface 171 (.agg #[.string ns[k].name]) := by rw [partV, if_neg (by omega), if_pos o2]
    rw [hp] at hpc
    have a1 := Tryz.ta_var_var
    have hsz := name_size (HNd.out k hlt) o2
    have HC : Hid (∀ W, _) := fun W => cloneS ns[k].name W (by omega)
    have B0 : Hid (Below w.heap.size w (wr.alloc (.cells #[.string ns[k].name] 171))) := HB.out.alloc HB.out.size _
    have HO0 : Hid (OwnB w.heap.size u3 zs (wr.alloc (.cells #[.string ns[k].name] 171))) := World.ownsRow.alloc HO.out _
    clear hp o2 HNx
    go_wp2_with fail
    refine (HC.out _).mono ?_
    rintro e w2 ⟨rfl, hb2⟩
    have HO2 : Hid (OwnB w.heap.size u3 zs w2) := HO0.out.below hb2
    have HB2 : Hid (Below w.heap.size w w2) := B0.out.trans (hb2.mono B0.out.size)
    clear hb2
    go_wp2_with (at_builtin; refine wpList_append_own _ rfl _ _ 34 rfl w.heap.size 9 i0 _ 1 16 Tryz.underlying34 hi hz0 hz1 hz2 rfl (by decide) _ _ _ rfl (World.ownsRow.alloc HO2.out _) ⟨_, 0, none⟩ 1 1 [.string ns[k].name] rfl rfl (cell_one_new _ _ _) (one_cellF _) (by unfold maxLen; omega) (by omega) (by have h8 := HB2.out.size; simp; omega) ?_)
    intro v' w3 hown3 hgrow _
    have R := ownB_snoc hown3 HO2.out hgrow rfl HB2.out
    clear hown3 hgrow
    go_wp2
    go_roundw
    case rel => exact ⟨k + 1, by go_num, by omega, by rw [HNx2.out]; exact R.1, R.2⟩
    case measure => simp [intOf]; omega
   ·have HNx2 : Hid (namesF (ns.take (k + 1)) = zs) := by have := HNx.out; rwa [if_neg o2, List.append_nil] at this
    obtain ⟨t, pv, hp, hta⟩ := part_noVar o2
    rw [hp] at hpc
    have B0 : Hid (Below w.heap.size w (wr.alloc (.cells #[.string ⟨#[]⟩] 171))) := HB.out.alloc HB.out.size _
    have HO0 : Hid (OwnB w.heap.size u3 zs (wr.alloc (.cells #[.string ⟨#[]⟩] 171))) := World.ownsRow.alloc HO.out _
    clear hp o2 HNx
    go_wp2
    go_roundw
    case rel => exact ⟨k + 1, by go_num, by omega, by rw [HNx2.out]; exact HO0.out, B0.out⟩
    case measure => simp [intOf]; omega
  ·obtain rfl : k = ns.length := by omega
   rw [List.take_of_length_le (Nat.le_refl _)] at HO
   have i4 : ¬ (ns.length : Int) < (ns.length : Int) := by omega
   go_wp2
   go_ret
   exact ⟨_, rfl, HO.out, HB.out⟩
end Go.Proofs.YtpbicppcehhphaaGreatDoor

namespace Go.Proofs.YtpbicppcehhphaaGreatDoor
open Go.RowKit
set_option maxHeartbeats 1600000
set_option maxRecDepth 100000
/-! ### sorted, each once: what the row is then -/
open Go.Sort
theorem grow_none (w : World) : grow w #[] = w := by simp [grow]
theorem compact_len (zs : List (List UInt8)) : (Lib.compact zs).length ≤ zs.length := by
 rw [Lib.compact, Lib.compactUpTo, List.length_map]
 exact Nat.le_trans (List.length_filter_le ..) (by simp)
theorem own_compact {w : World} {base g cap q : Nat} {e : TypeId} {cur : Array Value} {zs : List (List UInt8)} (hbase : base ≤ g) (hb : w.heap[g]? = some (.cells cur e (0, 0))) (h1 : zs.length ≤ cap) (h2 : cap ≤ maxLen) (h3 : cur.size = cap * 1) :
  (putRow encStr (Sort.ahead w q) g 0 (Lib.compact zs ++ List.replicate (zs.length - (Lib.compact zs).length) []).toArray).ownsRow base e 1 (.slice (some ⟨g, 0, none⟩) (Lib.compact zs).length cap) (Lib.compact zs).length ((Lib.compact zs).map encStr) := by
 have hl := compact_len zs
 have hh := heap_sorted (n := q) (os := #[]) (Lib.compact zs ++ List.replicate (zs.length - (Lib.compact zs).length) []).toArray hb
 rw [grow_none] at hh
 refine ⟨by simp, .inr ⟨g, cap, _, rfl, hbase, hh, by omega, h2, by simp [putCells, h3], ?_⟩⟩
 have ht := take_putCells cur (Lib.compact zs ++ List.replicate (zs.length - (Lib.compact zs).length) []) (by simp; omega)
 have ht2 := congrArg (List.take (Lib.compact zs).length) ht
 rw [List.take_take, List.map_append, List.take_append_of_le_length (by simp), List.take_of_length_le (by simp : (List.map encStr (Lib.compact zs)).length ≤ (Lib.compact zs).length), List.length_append, List.length_replicate, Nat.min_eq_left (by omega)] at ht2
 rw [Nat.mul_one]
 exact ht2
theorem sb_enc (ss : List ByteArray) : sb ss = (ss.map fun s => s.data.toList).map encStr := by
 rw [sb, List.map_map]
 apply List.map_congr_left
 intro s _
 simp [encStr]
theorem own_names {B : Nat} {v : Value} {ss : List ByteArray} {n : Nat} {ts : List (List UInt8)} {w : World} (h : w.ownsRow B 9 1 v n (ts.map encStr)) (hn : n = ts.length) (ht : ts = ss.map fun s => s.data.toList) : OwnB B v ss w := by
 subst hn
 subst ht
 rw [OwnB, sb_enc]
 rw [List.length_map] at h
 exact h
theorem implFreeOf_any (v : Value) (ns : List NodeD) (w : World) (hg : errTy w) (h : NRow w v ns) :
  Calls Tryz.prog 94 #[.agg #[v]] w fun e w' => ∃ o, e = .returned o ∧ OwnB w.heap.size o (freeB ns) w' ∧ Below w.heap.size w w' := by
 have HG : Hid (errTy w) := hg
 have HR : Hid (NRow w v ns) := h
 obtain ⟨a, cap, rfl⟩ := h.slice
 have B0 : Hid (Below w.heap.size w (w.alloc (.cells #[.slice a ns.length cap] 54))) := (Below.refl _ _).alloc (Nat.le_refl _) _
 clear h hg
 cases hx : exprB ns with
 | false =>
  have HP : Hid (∀ W, NRow W (.slice a ns.length cap) ns → _) := fun W hw => partsOf_no (.slice a ns.length cap) ns W hw hx
  have HF : Hid (freeB ns = []) := by rw [Hid, freeB, hx]; rfl
  rw [HF.out]
  clear hx
  go_enter Tryz.func94, Tryz.ntmps94
  go_wp2_with fail
  refine (HP.out _ (HR.out.below B0.out)).mono ?_
  rintro e w1 ⟨rfl, hb1⟩
  have B1 : Hid (Below w.heap.size w w1) := B0.out.trans (hb1.mono B0.out.size)
  clear hb1
  go_wp2_with fail
  refine (faultCode_is 1 _ (HG.out.below B1.out)).mono ?_
  rintro e w2 ⟨rfl, hb2⟩
  have B2 : Hid (Below w.heap.size w w2) := B1.out.trans (hb2.mono B1.out.size)
  have O2 : Hid (OwnB w.heap.size (.slice (some ⟨w2.heap.size, 0, none⟩) 0 0) [] (w2.alloc (.cells #[] 9))) := World.ownsRow_made (base := w.heap.size) w2 #[] 0 (e := 9) (size := 1) B2.out.size (by decide) rfl
  clear hb2
  go_wp2
  go_ret
  exact ⟨_, rfl, O2.out, B2.out.alloc B2.out.size _⟩
 | true =>
  have HP : Hid (∀ W, NRow W (.slice a ns.length cap) ns → _) := fun W hw => partsOf_yes (.slice a ns.length cap) ns W hw hx
  have HNm : Hid (∀ v W, PRow W v ns → _) := fun v W hw => namesOf_any v ns W hx hw
  have HF : Hid (freeB ns = freeF ns) := by rw [Hid, freeB, hx]; rfl
  have HFC : Hid (Lib.compact (((namesF ns).map fun s => s.data.toList).mergeSort leL) = (freeF ns).map fun s => s.data.toList) := free_compact ns
  have hnl : (namesF ns).length ≤ 20 := by have h1 := namesF_len ns; have h2 := (exprB_at hx).1; omega
  rw [HF.out]
  clear hx
  go_enter Tryz.func94, Tryz.ntmps94
  go_wp2_with fail
  refine (HP.out _ (HR.out.below B0.out)).mono ?_
  rintro e w1 ⟨o, rfl, ho, hb1⟩
  have B1 : Hid (Below w.heap.size w w1) := B0.out.trans (hb1.mono B0.out.size)
  have P1 : Hid (PRow w1 o ns) := ho.row
  clear hb1 ho B0 HP
  go_wp2_with fail
  refine (faultCode_nil _).mono ?_
  rintro e w2 ⟨rfl, hb2⟩
  have B2 : Hid (Below w.heap.size w w2) := B1.out.trans (hb2.mono B1.out.size)
  have P2 : Hid (PRow w2 o ns) := P1.out.below hb2
  clear hb2 B1 P1
  go_wp2_with fail
  refine (HNm.out _ _ P2.out).mono ?_
  rintro e w3 ⟨o3, rfl, ho3, hb3⟩
  have B3 : Hid (Below w.heap.size w w3) := B2.out.trans (hb3.mono B2.out.size)
  have HO3 : Hid (OwnB w2.heap.size o3 (namesF ns) w3) := ho3
  have hs2 : w.heap.size ≤ w2.heap.size := B2.out.size
  clear ho3 hb3 HNm P2
  by_cases h0 : (namesF ns).length = 0
  ·have HFe : Hid (freeF ns = []) := by
    have h1 := HFC.out
    rw [List.eq_nil_of_length_eq_zero h0] at h1
    have h2 : ((freeF ns).map fun s => s.data.toList) = [] := by
     rw [← h1]
     refine List.eq_nil_of_length_eq_zero ?_
     have h3 := compact_len ((List.map (fun s : ByteArray => s.data.toList) []).mergeSort leL)
     rw [List.length_mergeSort, List.map_nil, List.length_nil] at h3
     exact Nat.le_zero.1 h3
    exact List.map_eq_nil_iff.1 h2
   obtain ⟨a3, c3, ho⟩ := HO3.out.row.slice
   rw [h0] at ho
   subst ho
   have HOF : Hid (OwnB w.heap.size (.slice a3 0 c3) (freeF ns) w3) := by
    have h1 := HO3.out
    rw [List.eq_nil_of_length_eq_zero h0] at h1
    rw [Hid, HFe.out]
    refine ⟨h1.1, ?_⟩
    rcases h1.2 with h | ⟨g, cp, cur, e, hg, r⟩
    ·exact .inl h
    ·exact .inr ⟨g, cp, cur, e, Nat.le_trans hs2 hg, r⟩
   clear h0 hnl
   go_wp2_with fail
   refine (Tryz.slices_Sort_string_none a3 c3 _).mono ?_
   rintro e wq ⟨rfl, hw⟩
   rw [hw]
   clear hw wq
   go_wp2_with fail
   refine (Tryz.slices_Compact_string_empty a3 c3 _).mono ?_
   rintro e wq ⟨rfl, hw⟩
   rw [hw]
   clear hw wq
   go_wp2
   go_ret
   exact ⟨_, rfl, HOF.out, B3.out⟩
  ·rcases HO3.out.2 with ⟨_, hn0⟩ | ⟨g, c3, cur, ho, hgb, hblk, h1, h2, h3, h4⟩
   ·exact absurd hn0 h0
   subst ho
   obtain ⟨ss, hss⟩ : ∃ ss, ((namesF ns).map fun s => s.data.toList) = ss := ⟨_, rfl⟩
   have hsl : ss.length = (namesF ns).length := by rw [← hss, List.length_map]
   rw [hss] at HFC
   have h4' : cur.toList.take ss.length = ss.map encStr := by
    rw [sb_enc, hss, Nat.mul_one] at h4
    rw [hsl]; exact h4
   rw [← hsl] at h1 hnl
   have hgl : g < w3.heap.size := (Array.getElem?_eq_some_iff.1 hblk).1
   have HS : Hid (_) := Tryz.slices_Sort_string g 0 c3 ss w3 (holds_of_block hblk h4') hgl (by omega)
   have HML : Hid ((ss.mergeSort leL).length = ss.length) := List.length_mergeSort ss
   rw [← hsl]
   clear h0 h4 hsl hss
   go_wp2_with fail
   refine Calls.mono HS.out ?_
   rintro e w4 ⟨rfl, n4, os4, hw4⟩
   have hb4 : w4.heap[g]? = some (.cells (putCells encStr 0 (ss.mergeSort leL).toArray cur) 9 (0, 0)) := by rw [hw4]; exact heap_sorted _ hblk
   have hg4 : w3.grownBy w4 (some g) := by rw [hw4]; exact grownBy_sorted _
   have B4 : Hid (Below w.heap.size w w4) := B3.out.grown hg4 B3.out.size (fun k hk => by cases hk; omega)
   have hsz4 : (putCells encStr 0 (ss.mergeSort leL).toArray cur).size = c3 * 1 := by simp [putCells, h3]
   have ht4 := take_putCells cur (ss.mergeSort leL) (by rw [HML.out]; omega)
   have HC : Hid (_) := Tryz.slices_Compact_string g 0 c3 (ss.mergeSort leL) w4 (holds_of_block hb4 ht4) (by rw [HML.out]; omega) (by rw [HML.out]; omega)
   rw [HML.out] at HC
   have HOC : Hid (∀ q, _) := fun q => own_compact (w := w4) (base := w.heap.size) (q := q) (zs := ss.mergeSort leL) (by omega) hb4 (by rw [HML.out]; omega) h2 hsz4
   clear hw4 hg4 hsz4 ht4 hb4
   go_wp2_with fail
   refine Calls.mono HC.out ?_
   rintro e w5 ⟨rfl, q, hw5⟩
   have HOF : Hid (OwnB w.heap.size (.slice (some ⟨g, 0, none⟩) (Lib.compact (ss.mergeSort leL)).length c3) (freeF ns) w5) := by
    have h1 := HOC.out q
    rw [HML.out] at h1
    rw [hw5]
    exact own_names h1 rfl HFC.out
   have B5 : Hid (Below w.heap.size w w5) := by
    have hg5 : w4.grownBy w5 (some g) := by rw [hw5, ← grow_none (putRow encStr _ _ _ _)]; exact grownBy_sorted _
    exact B4.out.grown hg5 B4.out.size (fun k hk => by cases hk; omega)
   clear hw5
   go_wp2
   go_ret
   exact ⟨_, rfl, HOF.out, B5.out⟩
end Go.Proofs.YtpbicppcehhphaaGreatDoor

namespace Go.Proofs.YtpbicppcehhphaaGreatDoor
open Go.RowKit
set_option maxHeartbeats 1600000
set_option maxRecDepth 100000
def nrC : List PanicEntry := [{ v := .iface 101 (.agg #[]), recovered := false }]
def okE (b : Bool) : Ending := if b then .returned (.tuple #[]) else .panicked nrC
theorem okE_yes : okE true = .returned (.tuple #[]) := rfl
theorem okE_no : okE false = .panicked nrC := rfl
theorem want_yes (w : World) : Calls Tryz.prog 29 #[.bool true] w fun e w' => e = .returned (.tuple #[]) ∧ w' = w := by
 go_enter Tryz.func29, Tryz.ntmps29
 go_wp2
 go_end0
 exact ⟨rfl, rfl⟩
theorem want_no (w : World) : Calls Tryz.prog 29 #[.bool false] w fun e w' => e = .panicked nrC ∧ w' = w := by
 go_enter Tryz.func29, Tryz.ntmps29
 go_wp2
 exact ⟨rfl, rfl, rfl⟩
def idxS (x : ByteArray) : Nat → List ByteArray → Int
 | _, [] => -1
 | i, s :: ss => if s = x then (i : Int) else idxS x (i + 1) ss
theorem idxS_drop (ss : List ByteArray) (x : ByteArray) (k : Nat) (h : k < ss.length) : idxS x k (ss.drop k) = if ss[k] = x then (k : Int) else idxS x (k + 1) (ss.drop (k + 1)) := by
 rw [List.drop_eq_getElem_cons h, idxS]
theorem idxS_in (x : ByteArray) : ∀ (i : Nat) (ss : List ByteArray), decide (0 ≤ idxS x i ss) = inB ss x
 | i, [] => by simp [idxS, inB]
 | i, s :: ss => by
  rw [idxS]
  by_cases h : s = x
  ·rw [if_pos h]
   simp [inB, h]
  ·rw [if_neg h, idxS_in x (i + 1) ss]
   simp [inB, h]
theorem index_any (v : Value) (ss : List ByteArray) (x : ByteArray) (w : World) (hn : ss.length ≤ 1048576) (h : SRow w v ss) :
  Calls Tryz.prog 104 #[v, .string x] w fun e w' => e = .returned (.int .i64 (idxS x 0 ss)) ∧ w' = w := by
 obtain ⟨a, cap, rfl⟩ := h.slice
 have HR : Hid (SRow w (.slice a ss.length cap) ss) := h
 clear h
 go_enter Tryz.func104, Tryz.ntmps104
 go_wp2
 go_loopw [8] (fun iv wr => ∃ k : Nat, iv = .int .i64 k ∧ k ≤ ss.length ∧ idxS x k (ss.drop k) = idxS x 0 ss ∧ wr = w) (fun iv _ => ss.length - (intOf iv).toNat)
 case atStart => exact ⟨0, rfl, Nat.zero_le _, rfl, rfl⟩
 case round =>
  obtain ⟨k, rfl, hk, hat, hwr⟩ := hrel
  rw [hwr]
  clear hwr
  have HA : Hid (idxS x k (ss.drop k) = idxS x 0 ss) := hat
  clear hat
  by_cases hlt : k < ss.length
  ·have HD : Hid (_ = _) := idxS_drop ss x k hlt
   obtain ⟨b, off, rfl, hc⟩ := HR.out.at hlt
   have i4 : (k : Int) < (ss.length : Int) := by omega
   by_cases he : ss[k] = x
   ·have hq := beq_yes he.symm
    have HV : Hid (idxS x 0 ss = (k : Int)) := by rw [Hid, ← HA.out, HD.out, if_pos he]
    clear he
    go_wp2
    go_ret
    rw [HV.out]
    exact ⟨rfl, rfl⟩
   ·have hq := beq_no (fun h => he h.symm)
    have HN : Hid (idxS x (k + 1) (ss.drop (k + 1)) = idxS x 0 ss) := by rw [Hid, ← HA.out, HD.out, if_neg he]
    clear he
    go_wp2
    go_roundw
    case rel => exact ⟨k + 1, by go_num, by omega, HN.out, (by first | rfl | trivial)⟩
    case measure => simp [intOf]; omega
  ·obtain rfl : k = ss.length := by omega
   have HV : Hid (idxS x 0 ss = -1) := by rw [Hid, ← HA.out, List.drop_of_length_le (Nat.le_refl _)]; rfl
   go_wp2
   go_ret
   rw [HV.out]
   exact ⟨rfl, rfl⟩
theorem contains_any (v : Value) (ss : List ByteArray) (x : ByteArray) (w : World) (hn : ss.length ≤ 1048576) (h : SRow w v ss) :
  Calls Tryz.prog 92 #[v, .string x] w fun e w' => e = .returned (.bool (inB ss x)) ∧ w' = w := by
 have HI : Hid (∀ _ : Unit, _) := fun _ => index_any v ss x w hn h
 have HV : Hid (decide (0 ≤ idxS x 0 ss) = inB ss x) := idxS_in x 0 ss
 generalize idxS x 0 ss = r at *
 rw [← HV.out]
 clear HV
 go_enter Tryz.func92, Tryz.ntmps92
 go_wp2_with (go_at_call 104; refine (HI.out ()).mono ?_; rintro e wq ⟨rfl, hw⟩; rw [hw]; clear hw)
 go_ret
 exact ⟨rfl, rfl⟩
theorem contains_is (v : Value) (ss : List ByteArray) (x : ByteArray) (b : Bool) (hb : inB ss x = b) (w : World) (hn : ss.length ≤ 1048576) (h : SRow w v ss) :
  Calls Tryz.prog 92 #[v, .string x] w fun e w' => e = .returned (.bool b) ∧ w' = w := by
 subst hb
 exact contains_any v ss x w hn h
theorem checkParams_any (v : Value) (ps : List ByteArray) (w : World) (h : SRow w v ps) (hn : ps.length ≤ 1048576) :
  Calls Tryz.prog 50 #[v] w fun e w' => e = okE (paramsB ps) ∧ w' = w := by
 obtain ⟨a, cap, rfl⟩ := h.slice
 have HR : Hid (SRow w (.slice a ps.length cap) ps) := h
 clear h
 by_cases h6 : ps.length ≤ 6
 ·have HB : Hid (paramsB ps = parTo ps ps.length) := by simp [Hid, paramsB, h6]
  have d6 : decide ((ps.length : Int) ≤ 6) = true := by rw [decide_eq_true]; omega
  go_enter Tryz.func50, Tryz.ntmps50
  go_wp2_with (go_at_call 29; refine (want_yes _).mono ?_; rintro e wq ⟨rfl, hw⟩; rw [hw]; clear hw)
  go_loopw [10] (fun iv wr => ∃ k : Nat, iv = .int .i64 k ∧ k ≤ ps.length ∧ parTo ps k = true ∧ wr = w) (fun iv _ => ps.length - (intOf iv).toNat)
  case atStart => exact ⟨0, rfl, Nat.zero_le _, rfl, rfl⟩
  case round =>
   obtain ⟨k, rfl, hk, hto, hwr⟩ := hrel
   rw [hwr]
   clear hwr
   have HTo : Hid (parTo ps k = true) := hto
   clear hto
   by_cases hlt : k < ps.length
   ·have HNx : Hid (parTo ps (k + 1) = parAt ps k) := by rw [Hid, parTo_next, HTo.out, Bool.true_and]
    have HAt : Hid (_ = _) := parAt_of ps k hlt
    have HNo : Hid (parAt ps k = false → paramsB ps = false) := fun h => params_no ps k hlt h
    obtain ⟨b, off, rfl, hc⟩ := HR.out.at hlt
    have i4 : (k : Int) < (ps.length : Int) := by omega
    cases hnm : nameB ps[k] with
    | false =>
     have HN : Hid (∀ W, _) := fun W => implVarName_is ps[k] false hnm W
     have HV : Hid (paramsB ps = false) := HNo.out (by rw [HAt.out, hnm]; rfl)
     clear HAt HNo
     go_wp2_with (first
      | (go_at_call 74; refine (HN.out _).mono ?_; rintro e wq ⟨rfl, hw⟩; rw [hw]; clear hw)
      | (go_at_call 29; refine (want_no _).mono ?_; rintro e wq ⟨rfl, hw⟩; rw [hw]; clear hw))
     rw [HV.out]
     exact ⟨rfl, rfl, rfl⟩
    | true =>
     have HN : Hid (∀ W, _) := fun W => implVarName_is ps[k] true hnm W
     by_cases hk0 : k = 0
     ·have k1 : ((k : Int) == 0) = true := by rw [hk0]; rfl
      have HY : Hid (parAt ps k = true) := by rw [Hid, HAt.out, hnm, decide_eq_true hk0]; rfl
      clear hk0 HAt HNo
      go_wp2_with (first
       | (go_at_call 74; refine (HN.out _).mono ?_; rintro e wq ⟨rfl, hw⟩; rw [hw]; clear hw)
       | (go_at_call 29; refine (want_yes _).mono ?_; rintro e wq ⟨rfl, hw⟩; rw [hw]; clear hw))
      go_roundw
      case rel => exact ⟨k + 1, by go_num, by omega, by rw [HNx.out, HY.out], (by first | rfl | trivial)⟩
      case measure => simp [intOf]; omega
     ·have k1 : ((k : Int) == 0) = false := by simpa using hk0
      obtain ⟨j, rfl⟩ : ∃ j, k = j + 1 := ⟨k - 1, by omega⟩
      obtain ⟨b2, off2, e2, hc2⟩ := HR.out.at (k := j) (by omega)
      cases e2
      have hwk : IntKind.i64.wrap (j : Int) = (j : Int) := by rw [IntKind.wrap_i64]; omega
      have i6 : (j : Int) < (ps.length : Int) := by omega
      have i7 : (j : Int) + 1 < (ps.length : Int) := by omega
      have hgd : ps.getD (j + 1 - 1) noS = ps[j] := getD_is ps j (by omega)
      have k2 : ((j : Int) + 1 == 0) = false := by simpa using k1
      clear hk0 k1
      cases hls : Op.bytesLess ps[j].toList ps[j + 1].toList with
      | true =>
       have HY : Hid (parAt ps (j + 1) = true) := by rw [Hid, HAt.out, hnm, hgd, lessS, hls]; simp
       clear hgd HAt HNo
       generalize ps[j + 1] = p1 at *
       generalize ps[j] = p0 at *
       go_wp2_with (first
        | (go_at_call 74; refine (HN.out _).mono ?_; rintro e wq ⟨rfl, hw⟩; rw [hw]; clear hw)
        | (go_at_call 29; refine (want_yes _).mono ?_; rintro e wq ⟨rfl, hw⟩; rw [hw]; clear hw))
       go_roundw
       case rel => exact ⟨j + 1 + 1, by go_num, hlt, by rw [HNx.out, HY.out], (by first | rfl | trivial)⟩
       case measure => simp [intOf]; omega
      | false =>
       have HV : Hid (paramsB ps = false) := HNo.out (by rw [HAt.out, hnm, hgd, lessS, hls]; simp)
       clear hgd HAt HNo
       generalize ps[j + 1] = p1 at *
       generalize ps[j] = p0 at *
       go_wp2_with (first
        | (go_at_call 74; refine (HN.out _).mono ?_; rintro e wq ⟨rfl, hw⟩; rw [hw]; clear hw)
        | (go_at_call 29; refine (want_yes _).mono ?_; rintro e wq ⟨rfl, hw⟩; rw [hw]; clear hw)
        | (go_at_call 29; refine (want_no _).mono ?_; rintro e wq ⟨rfl, hw⟩; rw [hw]; clear hw))
       rw [HV.out]
       exact ⟨rfl, rfl, rfl⟩
   ·obtain rfl : k = ps.length := by omega
    have HV : Hid (paramsB ps = true) := by rw [Hid, HB.out, HTo.out]
    go_wp2
    go_end0
    rw [HV.out]
    exact ⟨rfl, rfl⟩
 ·have HV : Hid (paramsB ps = false) := by simp [Hid, paramsB, h6]
  have d6 : decide ((ps.length : Int) ≤ 6) = false := by rw [decide_eq_false]; omega
  go_enter Tryz.func50, Tryz.ntmps50
  go_wp2_with (go_at_call 29; refine (want_no _).mono ?_; rintro e wq ⟨rfl, hw⟩; rw [hw]; clear hw)
  rw [HV.out]
  exact ⟨rfl, rfl, rfl⟩
end Go.Proofs.YtpbicppcehhphaaGreatDoor

namespace Go.Proofs.YtpbicppcehhphaaGreatDoor
open Go.RowKit
set_option maxHeartbeats 1600000
set_option maxRecDepth 100000
def moreB : List UInt8 := [43, 45, 42, 94, 40, 41, 91, 93, 58, 44, 59, 46, 61, 60, 62]
theorem signs_idx : ∀ k : Fin 256, decide (Lib.indexByte moreB (UInt8.ofNat k.1) < 0) = !(moreL.any (· == k.1)) := by decide +kernel
theorem sign_idx (b : UInt8) (h0 : kindP b.toNat = 0) : decide (Lib.indexByte moreB b < 0) = !(sign6 b.toNat) := by
 have h := signs_idx ⟨b.toNat, b.toNat_lt⟩
 have e : UInt8.ofNat b.toNat = b := by simp
 simp only [e] at h
 have hk : okb b.toNat = false := by
  unfold kindP at h0
  split at h0
  ·cases h0
  ·split at h0
   ·cases h0
   ·unfold okb; simp; omega
 have e2 : sign6 b.toNat = moreL.any (· == b.toNat) := by
  rw [sign6, okM, hk, Bool.false_or]; rfl
 rw [h, e2]
theorem sign_kind (b : Nat) (h0 : ¬ kindP b = 0) : sign6 b = true := by
 have hk : okb b = true := by
  unfold kindP at h0
  split at h0
  ·unfold okb; simp; omega
  ·split at h0
   ·unfold okb; simp; omega
   ·exact absurd rfl h0
 rw [sign6, okM, hk, Bool.true_or]
theorem isSymText_any (s : ByteArray) (w : World) (hs : s.size ≤ 1048576) :
  Calls Tryz.prog 75 #[.string s] w fun e w' => e = .returned (.bool (text6 s)) ∧ w' = w := by
 have HB : Hid (text6 s = (text6To s s.size && decide ((1 : Int) ≤ s.size ∧ (s.size : Int) ≤ 8))) := rfl
 by_cases h1 : s.size < 1
 ·have HV : Hid (text6 s = false) := by rw [Hid, HB.out]; simp; omega
  go_enter Tryz.func75, Tryz.ntmps75
  go_wp2
  go_ret
  rw [HV.out]
  exact ⟨rfl, rfl⟩
 by_cases h6 : 8 < s.size
 ·have HV : Hid (text6 s = false) := by rw [Hid, HB.out]; simp; omega
  go_enter Tryz.func75, Tryz.ntmps75
  go_wp2
  go_ret
  rw [HV.out]
  exact ⟨rfl, rfl⟩
 have HL : Hid (text6 s = text6To s s.size) := by rw [Hid, HB.out]; simp; omega
 have d1 : decide ((s.size : Int) < 1) = false := by rw [decide_eq_false]; omega
 have d2 : decide ((8 : Int) < (s.size : Int)) = false := by rw [decide_eq_false]; omega
 go_enter Tryz.func75, Tryz.ntmps75
 go_wp2
 go_loopw [14] (fun iv wr => ∃ k : Nat, iv = .int .i64 k ∧ k ≤ s.size ∧ text6To s k = true ∧ wr = w) (fun iv _ => s.size - (intOf iv).toNat)
 case atStart => exact ⟨0, rfl, Nat.zero_le _, rfl, rfl⟩
 case round =>
  obtain ⟨k, rfl, hk, hto, hwr⟩ := hrel
  rw [hwr]
  clear hwr
  have HTo : Hid (text6To s k = true) := hto
  clear hto
  by_cases hlt : k < s.size
  ·have hu := s[k].toNat_lt
   have HNx : Hid (_ = _) := text6To_next s k hlt
   have HNo : Hid (sign6 s[k].toNat = false → text6 s = false) := fun h => text6_no s k hlt h
   have i4 : (k : Int) < (s.size : Int) := by omega
   have HKk : Hid (∀ W, _) := fun W => kind_any s[k].toNat (by omega) W
   by_cases hz : kindP s[k].toNat = 0
   ·rw [hz] at HKk
    have HS : Hid (_ = _) := sign_idx s[k] hz
    have HG : Hid (∀ W, Calls Tryz.prog 90 #[.string { data := #[43, 45, 42, 94, 40, 41, 91, 93, 58, 44, 59, 46, 61, 60, 62] }, .int .u8 s[k].toNat] W fun e w' => e = .returned (.int .i64 (Lib.indexByte moreB s[k])) ∧ w' = W) := fun W => by
     refine (Tryz.strings_IndexByte _ _ _).mono ?_
     rintro e w' ⟨rfl, rfl⟩
     refine ⟨?_, rfl⟩
     have e1 : ((s[k].toNat : Int).toNat).toUInt8 = s[k] := by simp
     rw [e1]
     rfl
    clear hz
    generalize Lib.indexByte moreB s[k] = r at *
    cases hg : sign6 s[k].toNat with
    | true =>
     have hr : decide (r < 0) = false := by rw [HS.out, hg]; rfl
     clear HS HNo
     go_wp2_with (first
      | (go_at_call 70; refine (HKk.out _).mono ?_; rintro e wq ⟨rfl, hw⟩; rw [hw]; clear hw)
      | (go_at_call 90; refine (HG.out _).mono ?_; rintro e wq ⟨rfl, hw⟩; rw [hw]; clear hw))
     go_roundw
     case rel => exact ⟨k + 1, by go_num, by omega, by rw [HNx.out, HTo.out, hg]; rfl, (by first | rfl | trivial)⟩
     case measure => simp [intOf]; omega
    | false =>
     have hr : decide (r < 0) = true := by rw [HS.out, hg]; rfl
     have HV : Hid (text6 s = false) := HNo.out hg
     clear HS HNo hg
     go_wp2_with (first
      | (go_at_call 70; refine (HKk.out _).mono ?_; rintro e wq ⟨rfl, hw⟩; rw [hw]; clear hw)
      | (go_at_call 90; refine (HG.out _).mono ?_; rintro e wq ⟨rfl, hw⟩; rw [hw]; clear hw))
     go_ret
     rw [HV.out]
     exact ⟨rfl, rfl⟩
   ·have HY : Hid (sign6 s[k].toNat = true) := sign_kind _ hz
    obtain ⟨q, hq⟩ : ∃ q : Int, q = kindP s[k].toNat := ⟨_, rfl⟩
    rw [← hq] at HKk hz
    clear hq
    have hz2 : (q == 0) = false := by simpa using hz
    go_wp2_with (go_at_call 70; refine (HKk.out _).mono ?_; rintro e wq ⟨rfl, hw⟩; rw [hw]; clear hw)
    go_roundw
    case rel => exact ⟨k + 1, by go_num, by omega, by rw [HNx.out, HTo.out, HY.out]; rfl, (by first | rfl | trivial)⟩
    case measure => simp [intOf]; omega
  ·obtain rfl : k = s.size := by omega
   have HV : Hid (text6 s = true) := by rw [Hid, HL.out, HTo.out]
   go_wp2
   go_ret
   rw [HV.out]
   exact ⟨rfl, rfl⟩
theorem all_no {α : Type} {p : α → Bool} {xs : List α} {k : Nat} (h : k < xs.length) (hp : p xs[k] = false) : xs.all p = false := by
 rw [List.all_eq_false]
 exact ⟨xs[k], List.getElem_mem h, by rw [hp]; decide⟩
theorem all_to {α : Type} {p : α → Bool} {xs : List α} {k : Nat} (h : k < xs.length) (h1 : (xs.take k).all p = true) (hp : p xs[k] = true) : (xs.take (k + 1)).all p = true := by
 rw [List.take_succ_eq_append_getElem h, List.all_append, h1]
 simp [hp]
theorem checkArg_any (v u : Value) (ns : List NodeD) (known : List ByteArray) (w : World) (hg : errTy w) (hk : known.length ≤ 1048576) (h : NRow w v ns) (h' : SRow w u known) :
  Calls Tryz.prog 78 #[.agg #[v], u] w fun e w' => e = okE (knownB ns known) ∧ Below w.heap.size w w' := by
 have HR : Hid (NRow w v ns) := h
 have HK : Hid (SRow w u known) := h'
 have HG : Hid (errTy w) := hg
 obtain ⟨a, cap, rfl⟩ := h.slice
 obtain ⟨a', cap', rfl⟩ := h'.slice
 clear h h' hg
 have hfl := free_len ns
 have B0 : Hid (Below w.heap.size w (w.alloc (.cells #[.slice a ns.length cap] 54))) := (Below.refl _ _).alloc (Nat.le_refl _) _
 have E0 : (w.alloc (.cells #[.slice a ns.length cap] 54)).cell? ⟨w.heap.size, 0, none⟩ = some (.slice a ns.length cap) := box_at _ _ _ 0 _ rfl
 have HX : Hid (∀ W, Below w.heap.size w W → _) := fun W hb => implExprOk_any (.slice a ns.length cap) ns W (HG.out.below hb) (HR.out.below hb)
 cases hx : exprB ns with
 | false =>
  rw [hx] at HX
  have HV : Hid (knownB ns known = false) := by rw [Hid, knownB, hx, Bool.and_false]
  clear hx
  go_enter Tryz.func78, Tryz.ntmps78
  go_wp2_with fail
  refine (HX.out _ B0.out).mono ?_
  rintro e w1 ⟨rfl, hb1⟩
  have B1 : Hid (Below w.heap.size w w1) := B0.out.trans (hb1.mono B0.out.size)
  clear hb1
  go_wp2_with (go_at_call 29; refine (want_no _).mono ?_; rintro e wq ⟨rfl, hw⟩; rw [hw]; clear hw)
  rw [HV.out]
  exact ⟨rfl, rfl, B1.out⟩
 | true =>
  rw [hx] at HX
  have HV : Hid (knownB ns known = (freeB ns).all (inB known)) := by rw [Hid, knownB, hx, Bool.and_true]
  clear hx
  go_enter Tryz.func78, Tryz.ntmps78
  go_wp2_with fail
  refine (HX.out _ B0.out).mono ?_
  rintro e w1 ⟨rfl, hb1⟩
  have B1 : Hid (Below w.heap.size w w1) := B0.out.trans (hb1.mono B0.out.size)
  have E1 := cell_keep E0 hb1
  have F1 : Hid (∀ _ : Unit, _) := fun _ => implFreeOf_any (.slice a ns.length cap) ns w1 (HG.out.below B1.out) (HR.out.below B1.out)
  clear hb1
  go_wp2_with (go_at_call 29; refine (want_yes _).mono ?_; rintro e wq ⟨rfl, hw⟩; rw [hw]; clear hw)
  refine (F1.out ()).mono ?_
  rintro e w2 ⟨o, rfl, ho, hb2⟩
  have B2 : Hid (Below w.heap.size w w2) := B1.out.trans (hb2.mono B1.out.size)
  have HF : Hid (SRow w2 o (freeB ns)) := ho.row
  obtain ⟨af, cf, rfl⟩ := ho.row.slice
  clear ho hb2 F1
  generalize freeB ns = fs at *
  go_wp2
  go_loopw [12] (fun iv wr => ∃ k : Nat, iv = .int .i64 k ∧ k ≤ fs.length ∧ (fs.take k).all (inB known) = true ∧ wr = w2) (fun iv _ => fs.length - (intOf iv).toNat)
  case atStart => exact ⟨0, rfl, Nat.zero_le _, rfl, rfl⟩
  case round =>
   obtain ⟨k, rfl, hkk, hto, hwr⟩ := hrel
   rw [hwr]
   clear hwr
   have HTo : Hid ((fs.take k).all (inB known) = true) := hto
   clear hto
   by_cases hlt : k < fs.length
   ·obtain ⟨b, off, rfl, hc⟩ := HF.out.at hlt
    have i4 : (k : Int) < (fs.length : Int) := by omega
    cases hin : inB known fs[k] with
    | false =>
     have HC : Hid (∀ _ : Unit, _) := fun _ => contains_is (.slice a' known.length cap') known fs[k] false hin w2 hk (HK.out.below B2.out)
     have HV2 : Hid (knownB ns known = false) := by rw [Hid, HV.out]; exact all_no hlt hin
     clear hin
     go_wp2_with (first
      | (go_at_call 92; refine (HC.out ()).mono ?_; rintro e wq ⟨rfl, hw⟩; rw [hw]; clear hw)
      | (go_at_call 29; refine (want_no _).mono ?_; rintro e wq ⟨rfl, hw⟩; rw [hw]; clear hw))
     rw [HV2.out]
     exact ⟨rfl, rfl, B2.out⟩
    | true =>
     have HC : Hid (∀ _ : Unit, _) := fun _ => contains_is (.slice a' known.length cap') known fs[k] true hin w2 hk (HK.out.below B2.out)
     have HN : Hid ((fs.take (k + 1)).all (inB known) = true) := all_to hlt HTo.out hin
     clear hin
     go_wp2_with (first
      | (go_at_call 92; refine (HC.out ()).mono ?_; rintro e wq ⟨rfl, hw⟩; rw [hw]; clear hw)
      | (go_at_call 29; refine (want_yes _).mono ?_; rintro e wq ⟨rfl, hw⟩; rw [hw]; clear hw))
     go_roundw
     case rel => exact ⟨k + 1, by go_num, by omega, HN.out, (by first | rfl | trivial)⟩
     case measure => simp [intOf]; omega
   ·obtain rfl : k = fs.length := by omega
    have HV2 : Hid (knownB ns known = true) := by
     have := HTo.out
     rw [List.take_of_length_le (Nat.le_refl _)] at this
     rw [Hid, HV.out, this]
    go_wp2
    go_end0
    rw [HV2.out]
    exact ⟨rfl, B2.out⟩
end Go.Proofs.YtpbicppcehhphaaGreatDoor
