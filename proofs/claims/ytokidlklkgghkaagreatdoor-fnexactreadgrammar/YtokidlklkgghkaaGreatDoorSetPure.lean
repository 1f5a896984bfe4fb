/- EnvSet of the specification. -/
/- FreeOf of the specification: the names of an expression, in order. -/
/- EnvOnly of the specification. -/
/- Sets of bytes, with no program: their rows, what is in them, a mask of bits for them, and the text that is told of one. Nothing is assumed. -/
import Derived.Test.YtokidlklkgghkaaGreatDoorMark
import Derived.Test.YtokidlklkgghkaaGreatDoorXOk
import Derived.Test.YtokidlklkgghkaaGreatDoorGRule
import Derived.Test.YtokidlklkgghkaaGreatDoorEnvGet
import Derived.Laws.AppendOwnNone
import Derived.Maps.AppendAt
namespace Go.Proofs.YtokidlklkgghkaaGreatDoor
open Go.RowKit

def ltS (a b : ByteArray) : Bool := Op.bytesLess a.toList b.toList
/-- Greater, as the program asks it. -/
def gtS (a b : ByteArray) : Bool := !(Op.bytesLess a.toList b.toList || a.toList == b.toList)

end Go.Proofs.YtokidlklkgghkaaGreatDoor

namespace Go.Proofs.YtokidlklkgghkaaGreatDoor
open Go.RowKit

/-- A list of names with one more, in its place. -/
def putS (ss : List ByteArray) (s : ByteArray) : List ByteArray := ss.filter (fun t => ltS t s) ++ [s] ++ ss.filter (fun t => gtS t s)
theorem putS_len (ss : List ByteArray) (s : ByteArray) : (putS ss s).length ≤ 2 * ss.length + 1 := by
  have h1 := List.length_filter_le (fun t => ltS t s) ss
  have h2 := List.length_filter_le (fun t => gtS t s) ss
  rw [putS, List.length_append, List.length_append, List.length_singleton]
  omega
theorem one_cellF (s : ByteArray) : ∀ u ∈ [Value.string s], u.oneCell' = true := by
  intro u hu
  obtain rfl : u = .string s := by simpa using hu
  rfl
theorem filtS_next (p : ByteArray → Bool) (ss : List ByteArray) (k : Nat) (h : k < ss.length) : (ss.take (k + 1)).filter p = (ss.take k).filter p ++ (if p ss[k] = true then [ss[k]] else []) := by
  rw [List.take_succ_eq_append_getElem h, List.filter_append, List.filter_cons, List.filter_nil]
theorem ownB_snoc {B : Nat} {o v' : Value} {ys : List ByteArray} {x : ByteArray} {wr w2 : World} {ob : Obj} (hown2 : w2.ownsRow B 9 1 v' (ys.length + 1) (sb ys ++ [.string x])) (hown : OwnB B o ys wr) (hgrow : (wr.alloc ob).grownBy w2 o.ownBlock)
    {w : World} (hw : B = w.heap.size) (hb : Below w.heap.size w wr) : OwnB B v' (ys ++ [x]) w2 ∧ Below w.heap.size w w2 := by
  subst hw
  refine ⟨?_, ?_⟩
  · rw [OwnB, List.length_append, sb, List.map_append]
    exact hown2
  · exact (hb.alloc hb.size ob).grown hgrow (by have := hb.size; simp; omega) (fun k hk => (hown.lt k hk).1)

set_option maxHeartbeats 3200000 in
theorem l03Put_any (v : Value) (ss : List ByteArray) (s : ByteArray) (w : World) (hn : ss.length ≤ 1048576) (h : SRow w v ss) :
    Calls Tryz.prog 97 #[v, .string s] w fun e w' => ∃ o, e = .returned o ∧ OwnB w.heap.size o (putS ss s) w' ∧ Below w.heap.size w w' := by
  obtain ⟨i0, hi, hz0, hz1, hz2⟩ := info_parts Tryz.infoStr
  have HR : Hid (SRow w v ss) := h
  obtain ⟨a, cap, rfl⟩ := h.slice
  clear h
  go_enter Tryz.func97, Tryz.ntmps97
  go_wp2
  go_loopw [5, 6] (fun ov iv wr => ∃ k : Nat, iv = .int .i64 k ∧ k ≤ ss.length ∧ OwnB w.heap.size ov ((ss.take k).filter (fun t => ltS t s)) wr ∧ Below w.heap.size w wr) (fun _ iv _ => ss.length - (intOf iv).toNat)
  case atStart => exact ⟨0, rfl, Nat.zero_le _, World.ownsRow_made _ _ _ (Nat.le_refl _) (by decide) rfl, (Below.refl _ _).alloc (Nat.le_refl _) _⟩
  case round =>
    obtain ⟨k, rfl, hk, hown, hb⟩ := hrel
    have HO : Hid (OwnB w.heap.size u5 ((ss.take k).filter (fun t => ltS t s)) wr) := hown
    have HB : Hid (Below w.heap.size w wr) := hb
    have HRr : Hid (SRow wr (.slice a ss.length cap) ss) := HR.out.below hb
    clear hb hown
    by_cases hlt : k < ss.length
    · obtain ⟨b, off, rfl, hc1⟩ := HRr.out.at hlt
      have hfl : ((ss.take k).filter (fun t => ltS t s)).length ≤ k := Nat.le_trans (List.length_filter_le _ _) (by rw [List.length_take]; exact Nat.min_le_left _ _)
      have HF : Hid (_ = _) := filtS_next (fun t => ltS t s) ss k hlt
      generalize (ss.take k).filter (fun t => ltS t s) = ys at *
      cases hls : ltS ss[k] s with
      | true =>
        have ht : Op.bytesLess ss[k].toList s.toList = true := hls
        have HF2 : Hid ((ss.take (k + 1)).filter (fun t => ltS t s) = ys ++ [ss[k]]) := by have := HF.out; rwa [hls, if_pos rfl] at this
        clear hls HF
        go_wp2_with (at_builtin; refine wpList_append_own _ rfl _ _ 37 rfl w.heap.size 9 i0 _ 1 16 Tryz.underlying37 hi hz0 hz1 hz2 rfl (by decide) _ _ _ rfl (World.ownsRow.alloc HO.out _) ⟨wr.heap.size, 0, none⟩ 1 1 [.string ss[k]] rfl rfl (cell_one_new _ _ _) (one_cellF _) (by unfold maxLen; omega) (by omega) (by have h8 := HB.out.size; simp; omega) ?_)
        intro v' w2 hown2 hgrow _
        have R := ownB_snoc hown2 HO.out hgrow rfl HB.out
        clear hown2 hgrow
        go_wp2
        go_roundw
        case rel => exact ⟨k + 1, by go_num, by omega, by rw [HF2.out]; exact R.1, R.2⟩
        case measure => simp [intOf]; omega
      | false =>
        have ht : Op.bytesLess ss[k].toList s.toList = false := hls
        have HF2 : Hid ((ss.take (k + 1)).filter (fun t => ltS t s) = ys) := by have := HF.out; rwa [hls, if_neg (by simp), List.append_nil] at this
        clear hls HF
        go_wp2
        go_roundw
        case rel => exact ⟨k + 1, by go_num, by omega, by rw [HF2.out]; exact HO.out, HB.out⟩
        case measure => simp [intOf]; omega
    · obtain rfl : k = ss.length := by omega
      rw [List.take_of_length_le (Nat.le_refl _)] at HO
      have hfl : (ss.filter (fun t => ltS t s)).length ≤ ss.length := List.length_filter_le _ _
      generalize hys : ss.filter (fun t => ltS t s) = ys at *
      have HYs : Hid (ss.filter (fun t => ltS t s) = ys) := hys
      clear hys
      go_wp2_with (at_builtin; refine wpList_append_own _ rfl _ _ 37 rfl w.heap.size 9 i0 _ 1 16 Tryz.underlying37 hi hz0 hz1 hz2 rfl (by decide) _ _ _ rfl (World.ownsRow.alloc HO.out _) ⟨wr.heap.size, 0, none⟩ 1 1 [.string s] rfl rfl (cell_one_new _ _ _) (one_cellF _) (by unfold maxLen; omega) (by omega) (by have h8 := HB.out.size; simp; omega) ?_)
      intro v' w2 hown2 hgrow _
      have R := ownB_snoc hown2 HO.out hgrow rfl HB.out
      have HO2 : Hid (OwnB w.heap.size v' (ys ++ [s]) w2) := R.1
      have HB2 : Hid (Below w.heap.size w w2) := R.2
      clear hown2 hgrow R
      go_wp2
      go_loopw [5, 7] (fun ov iv wr => ∃ k : Nat, iv = .int .i64 k ∧ k ≤ ss.length ∧ OwnB w.heap.size ov (ys ++ [s] ++ (ss.take k).filter (fun t => gtS t s)) wr ∧ Below w.heap.size w wr) (fun _ iv _ => ss.length - (intOf iv).toNat)
      case atStart => exact ⟨0, rfl, Nat.zero_le _, by simpa using HO2.out, HB2.out⟩
      case round =>
        obtain ⟨k, rfl, hk, hown, hb⟩ := hrel
        have HO3 : Hid (OwnB w.heap.size u5 (ys ++ [s] ++ (ss.take k).filter (fun t => gtS t s)) wr) := hown
        have HB3 : Hid (Below w.heap.size w wr) := hb
        have HR3 : Hid (SRow wr (.slice a ss.length cap) ss) := HR.out.below hb
        clear hb hown
        by_cases hlt : k < ss.length
        · obtain ⟨b, off, rfl, hc1⟩ := HR3.out.at hlt
          have hf2 : (ys ++ [s] ++ (ss.take k).filter (fun t => gtS t s)).length ≤ ss.length + 1 + k := by
            have := List.length_filter_le (fun t => gtS t s) (ss.take k)
            rw [List.length_take] at this
            rw [List.length_append, List.length_append, List.length_singleton]
            omega
          have HF : Hid (ys ++ [s] ++ (ss.take (k + 1)).filter (fun t => gtS t s) = ys ++ [s] ++ (ss.take k).filter (fun t => gtS t s) ++ (if gtS ss[k] s = true then [ss[k]] else [])) := by
            rw [Hid, filtS_next (fun t => gtS t s) ss k hlt, ← List.append_assoc]
          generalize ys ++ [s] ++ (ss.take k).filter (fun t => gtS t s) = zs at *
          cases hls : gtS ss[k] s with
          | true =>
            have ht : (!(Op.bytesLess ss[k].toList s.toList || ss[k].toList == s.toList)) = true := hls
            have HF2 : Hid (ys ++ [s] ++ (ss.take (k + 1)).filter (fun t => gtS t s) = zs ++ [ss[k]]) := by have := HF.out; rwa [hls, if_pos rfl] at this
            clear hls HF
            go_wp2_with (at_builtin; refine wpList_append_own _ rfl _ _ 37 rfl w.heap.size 9 i0 _ 1 16 Tryz.underlying37 hi hz0 hz1 hz2 rfl (by decide) _ _ _ rfl (World.ownsRow.alloc HO3.out _) ⟨wr.heap.size, 0, none⟩ 1 1 [.string ss[k]] rfl rfl (cell_one_new _ _ _) (one_cellF _) (by unfold maxLen; omega) (by omega) (by have h8 := HB3.out.size; simp; omega) ?_)
            intro v' w2 hown2 hgrow _
            have R := ownB_snoc hown2 HO3.out hgrow rfl HB3.out
            clear hown2 hgrow
            go_wp2
            go_roundw
            case rel => exact ⟨k + 1, by go_num, by omega, by rw [HF2.out]; exact R.1, R.2⟩
            case measure => simp [intOf]; omega
          | false =>
            have ht : (!(Op.bytesLess ss[k].toList s.toList || ss[k].toList == s.toList)) = false := hls
            have HF2 : Hid (ys ++ [s] ++ (ss.take (k + 1)).filter (fun t => gtS t s) = zs) := by have := HF.out; rwa [hls, if_neg (by simp), List.append_nil] at this
            clear hls HF
            go_wp2
            go_roundw
            case rel => exact ⟨k + 1, by go_num, by omega, by rw [HF2.out]; exact HO3.out, HB3.out⟩
            case measure => simp [intOf]; omega
        · obtain rfl : k = ss.length := by omega
          rw [List.take_of_length_le (Nat.le_refl _)] at HO3
          have HP : Hid (OwnB w.heap.size u5 (putS ss s) wr) := by rw [Hid, putS, HYs.out]; exact HO3.out
          go_wp2
          go_ret
          exact ⟨_, rfl, HP.out, HB3.out⟩

/-- The names of an expression's nodes, in order. -/
def freeF (ns : List NodeD) : List ByteArray := ns.foldl (fun ss x => if x.op = 2 then putS ss x.name else ss) []
def freeB (ns : List NodeD) : List ByteArray := if exprB ns = true then freeF ns else []
theorem freeF_next (ns : List NodeD) (k : Nat) (h : k < ns.length) : freeF (ns.take (k + 1)) = if ns[k].op = 2 then putS (freeF (ns.take k)) ns[k].name else freeF (ns.take k) := by
  rw [List.take_succ_eq_append_getElem h, freeF, List.foldl_append]
  rfl
theorem freeF_len (ns : List NodeD) : ∀ k, k ≤ ns.length → (freeF (ns.take k)).length + 1 ≤ 2 ^ k
  | 0, _ => by simp [freeF]
  | k + 1, h => by
    have ih := freeF_len ns k (by omega)
    rw [freeF_next ns k (by omega), Nat.pow_succ]
    split
    · have := putS_len (freeF (ns.take k)) ns[k].name
      omega
    · omega
theorem two_pow_20 {k : Nat} (h : k ≤ 20) : 2 ^ k ≤ 1048576 := by
  have := Nat.pow_le_pow_right (n := 2) (by omega) h
  simpa using this

set_option maxHeartbeats 1600000 in
set_option maxRecDepth 100000 in
theorem specFreeOf_any (v : Value) (ns : List NodeD) (w : World) (hin : NIn ns) (h : NRow w v ns) :
    Calls Tryz.prog 130 #[.agg #[v]] w fun e w' => ∃ o, e = .returned o ∧ OwnB w.heap.size o (freeB ns) w' ∧ Below w.heap.size w w' := by
  have HR : Hid (NRow w v ns) := h
  have HIn : Hid (NIn ns) := hin
  obtain ⟨a, cap, rfl⟩ := h.slice
  clear h hin
  have hg0 : (w.alloc (.cells #[.slice a ns.length cap] 66)).heap.size = w.heap.size + 1 := by simp
  have B0 : Hid (Below w.heap.size w ((w.alloc (.cells #[.slice a ns.length cap] 66)).alloc (.cells #[] 9))) := ((Below.refl _ _).alloc (Nat.le_refl _) _).alloc (by simp) _
  have E0 : Hid (((w.alloc (.cells #[.slice a ns.length cap] 66)).alloc (.cells #[] 9)).cell? ⟨w.heap.size, 0, none⟩ = some (.slice a ns.length cap)) := cell_keep (lit_one _ _ _) ((Below.refl _ _).alloc (Nat.le_refl _) _)
  have O0 : Hid (OwnB w.heap.size (.slice (some ⟨w.heap.size + 1, 0, none⟩) 0 0) [] ((w.alloc (.cells #[.slice a ns.length cap] 66)).alloc (.cells #[] 9))) := by
    have := World.ownsRow_made (base := w.heap.size) (w.alloc (.cells #[.slice a ns.length cap] 66)) #[] 0 (e := 9) (size := 1) (by rw [hg0]; omega) (by decide) rfl
    rw [hg0] at this
    exact this
  cases hex : exprB ns with
  | false =>
    have HEx : Hid (∀ W, NRow W (.slice a ns.length cap) ns → _) := fun W => specExprOk_is (.slice a ns.length cap) ns false hex W HIn.out
    have HF : Hid (freeB ns = []) := by rw [Hid, freeB, hex]; rfl
    rw [HF.out]
    clear hex
    go_enter Tryz.func130, Tryz.ntmps130
    go_wp2_with fail
    refine (HEx.out _ (HR.out.below B0.out)).mono ?_
    rintro e w1 ⟨rfl, hb1⟩
    have B1 : Hid (Below w.heap.size w w1) := B0.out.trans (hb1.mono B0.out.size)
    have O1 : Hid (OwnB w.heap.size (.slice (some ⟨w.heap.size + 1, 0, none⟩) 0 0) [] w1) := O0.out.below hb1
    clear hb1
    go_wp2
    go_ret
    exact ⟨_, rfl, O1.out, B1.out⟩
  | true =>
    have HEx : Hid (∀ W, NRow W (.slice a ns.length cap) ns → _) := fun W => specExprOk_is (.slice a ns.length cap) ns true hex W HIn.out
    have HF : Hid (freeB ns = freeF ns) := by rw [Hid, freeB, hex]; rfl
    have hl := (exprB_at hex).1
    rw [HF.out]
    clear hex
    go_enter Tryz.func130, Tryz.ntmps130
    go_wp2_with fail
    refine (HEx.out _ (HR.out.below B0.out)).mono ?_
    rintro e w1 ⟨rfl, hb1⟩
    have B1 : Hid (Below w.heap.size w w1) := B0.out.trans (hb1.mono B0.out.size)
    have E1 : Hid (w1.cell? ⟨w.heap.size, 0, none⟩ = some (.slice a ns.length cap)) := cell_keep E0.out hb1
    have O1 : Hid (OwnB w.heap.size (.slice (some ⟨w.heap.size + 1, 0, none⟩) 0 0) [] w1) := O0.out.below hb1
    clear hb1 E0 O0 B0
    go_wp2
    go_loopw [3, 4] (fun ov iv wr => ∃ k : Nat, iv = .int .i64 k ∧ k ≤ ns.length ∧ OwnB w.heap.size ov (freeF (ns.take k)) wr ∧ Below w1.heap.size w1 wr) (fun _ iv _ => ns.length - (intOf iv).toNat)
    case atStart => exact ⟨0, rfl, Nat.zero_le _, O1.out, Below.refl _ _⟩
    case round =>
      obtain ⟨k, rfl, hk, hown, hbw⟩ := hrel
      have HO : Hid (OwnB w.heap.size u3 (freeF (ns.take k)) wr) := hown
      have HBr : Hid (Below w1.heap.size w1 wr) := hbw
      have HB : Hid (Below w.heap.size w wr) := B1.out.trans (hbw.mono B1.out.size)
      have hE := cell_keep E1.out hbw
      clear hown hbw
      by_cases hlt : k < ns.length
      · obtain ⟨b, off, kv, rfl, n0, n1, n2, n3, hI⟩ := (HR.out.below HB.out).at hlt
        have HNx : Hid (_ = _) := freeF_next ns k hlt
        have hle := freeF_len ns k (by omega)
        have hp := two_pow_20 (k := k) (by omega)
        have hle2 : (freeF (ns.take k)).length ≤ 1048576 := by omega
        have i4 : (k : Int) < (ns.length : Int) := by omega
        clear hle hp hI n1 n3
        generalize freeF (ns.take k) = zs at *
        by_cases ho : ns[k].op = 2
        · have HNx2 : Hid (freeF (ns.take (k + 1)) = putS zs ns[k].name) := by have := HNx.out; rwa [if_pos ho] at this
          have HP : Hid (∀ W, SRow W u3 zs → _) := fun W hv => l03Put_any u3 zs ns[k].name W hle2 hv
          rw [ho] at n0
          clear HNx ho
          go_wp2_with fail
          refine (HP.out _ HO.out.row).mono ?_
          rintro e w2 ⟨o2, rfl, ho2, hb2⟩
          have HO2 : Hid (OwnB w.heap.size o2 (putS zs ns[k].name) w2) := by
            refine ⟨ho2.1, ?_⟩
            rcases ho2.2 with h | ⟨g, cp, cur, e, hg, r⟩
            · exact .inl h
            · exact .inr ⟨g, cp, cur, e, Nat.le_trans HB.out.size hg, r⟩
          have HB2 : Hid (Below w1.heap.size w1 w2) := HBr.out.trans (hb2.mono HBr.out.size)
          clear ho2 hb2
          go_wp2
          go_roundw
          case rel => exact ⟨k + 1, by go_num, by omega, by rw [HNx2.out]; exact HO2.out, HB2.out⟩
          case measure => simp [intOf]; omega
        · have HNx2 : Hid (freeF (ns.take (k + 1)) = zs) := by have := HNx.out; rwa [if_neg ho] at this
          clear HNx
          go_wp2
          go_roundw
          case rel => exact ⟨k + 1, by go_num, by omega, by rw [HNx2.out]; exact HO.out, HBr.out⟩
          case measure => simp [intOf]; omega
      · obtain rfl : k = ns.length := by omega
        rw [List.take_of_length_le (Nat.le_refl _)] at HO
        have i4 : ¬ (ns.length : Int) < (ns.length : Int) := by omega
        go_wp2
        go_ret
        exact ⟨_, rfl, HO.out, HB.out⟩

end Go.Proofs.YtokidlklkgghkaaGreatDoor

namespace Go.Proofs.YtokidlklkgghkaaGreatDoor
open Go.RowKit

def inB (ss : List ByteArray) (s : ByteArray) : Bool := ss.any (fun t => decide (t = s))
theorem inB_iff (ss : List ByteArray) (s : ByteArray) : inB ss s = true ↔ s ∈ ss := by simp [inB]

set_option maxHeartbeats 800000 in
theorem specIn_any (v : Value) (ss : List ByteArray) (s : ByteArray) (w : World) (hn : ss.length ≤ 1048576) (h : SRow w v ss) :
    Calls Tryz.prog 98 #[v, .string s] w fun e w' => e = .returned (.bool (inB ss s)) ∧ w' = w := by
  have HR : Hid (SRow w v ss) := h
  obtain ⟨a, cap, rfl⟩ := h.slice
  clear h
  go_enter Tryz.func98, Tryz.ntmps98
  go_wp2
  go_loop [5] (fun iv => ∃ k : Nat, iv = .int .i64 k ∧ k ≤ ss.length ∧ ∀ j (hj : j < ss.length), j < k → ss[j] ≠ s) (fun iv => ss.length - (intOf iv).toNat)
  case atStart => exact ⟨0, rfl, Nat.zero_le _, fun _ _ h => by omega⟩
  case round =>
    obtain ⟨k, rfl, hk, hj⟩ := hrel
    have HJ : Hid (∀ j (hj : j < ss.length), j < k → ss[j] ≠ s) := hj
    clear hj
    by_cases hlt : k < ss.length
    · obtain ⟨b, off, rfl, hc1⟩ := HR.out.at hlt
      by_cases hnm : ss[k] = s
      · have ht := beq_yes hnm
        have HV : Hid (inB ss s = true) := by rw [Hid, inB_iff, ← hnm]; exact List.getElem_mem _
        clear hnm
        go_wp2
        go_ret
        rw [HV.out]
        exact ⟨rfl, rfl⟩
      · have ht := beq_no hnm
        go_wp2
        go_round
        case rel =>
          refine ⟨k + 1, by go_num, by omega, fun j hj hjk => ?_⟩
          by_cases e : j = k
          · subst e; exact hnm
          · exact HJ.out j hj (by omega)
        case measure => simp [intOf]; omega
    · have HV : Hid (inB ss s = false) := by
        rw [Hid, ← Bool.not_eq_true, inB_iff]
        intro hm
        obtain ⟨j, hj, e⟩ := List.getElem_of_mem hm
        exact HJ.out j hj (by omega) e
      go_wp2
      go_ret
      rw [HV.out]
      exact ⟨rfl, rfl⟩

end Go.Proofs.YtokidlklkgghkaaGreatDoor

namespace Go.Proofs.YtokidlklkgghkaaGreatDoor

def okb (n : Nat) : Bool := (decide (97 ≤ n) && decide (n ≤ 122)) || (decide (48 ≤ n) && decide (n ≤ 57))
theorem okb_iff (n : Nat) : okb n = true ↔ (97 ≤ n ∧ n ≤ 122) ∨ (48 ≤ n ∧ n ≤ 57) := by simp [okb]
theorem okb_not (n : Nat) : okb n = false ↔ ¬ ((97 ≤ n ∧ n ≤ 122) ∨ (48 ≤ n ∧ n ≤ 57)) := by rw [← okb_iff]; simp

/-- Whether two bytes bound a row. -/
def rowOk (a c : Nat) : Bool := okb c && decide (a ≤ c) && (decide (57 < c) == decide (57 < a))

def rowsL : List UInt8 → Option (List (Nat × Nat))
  | [] => some []
  | [a] => if okb a.toNat then some [(a.toNat, a.toNat)] else none
  | [a, b] => if okb a.toNat then (rowsL [b]).map ((a.toNat, a.toNat) :: ·) else none
  | a :: b :: c :: r =>
    if okb a.toNat then
      if b.toNat = 45 then
        if rowOk a.toNat c.toNat then (rowsL r).map ((a.toNat, c.toNat) :: ·) else none
      else (rowsL (b :: c :: r)).map ((a.toNat, a.toNat) :: ·)
    else none

theorem rowsL_bad (a : UInt8) (r : List UInt8) (h : okb a.toNat = false) : rowsL (a :: r) = none := by
  match r with
  | [] => simp [rowsL, h]
  | [b] => simp [rowsL, h]
  | b :: c :: r => simp [rowsL, h]
theorem rowsL_one (a : UInt8) (r : List UInt8) (h : okb a.toNat = true) (hn : ∀ b c q, r = b :: c :: q → b.toNat ≠ 45) : rowsL (a :: r) = (rowsL r).map ((a.toNat, a.toNat) :: ·) := by
  match r with
  | [] => simp [rowsL, h]
  | [b] => simp [rowsL, h]
  | b :: c :: r => rw [rowsL]; simp [h, hn b c r rfl]
theorem rowsL_row (a b c : UInt8) (r : List UInt8) (h : okb a.toNat = true) (hb : b.toNat = 45) (hr : rowOk a.toNat c.toNat = true) : rowsL (a :: b :: c :: r) = (rowsL r).map ((a.toNat, c.toNat) :: ·) := by
  rw [rowsL]; simp [h, hb, hr]
theorem rowsL_norow (a b c : UInt8) (r : List UInt8) (hb : b.toNat = 45) (hr : rowOk a.toNat c.toNat = false) : rowsL (a :: b :: c :: r) = none := by
  rw [rowsL]; simp [hb, hr]

/-- The same, by places. -/
theorem rows_bad (l : List UInt8) (i : Nat) (h : i < l.length) (hb : okb l[i].toNat = false) : rowsL (l.drop i) = none := by
  rw [List.drop_eq_getElem_cons h]; exact rowsL_bad _ _ hb
theorem rows_one (l : List UInt8) (i : Nat) (h : i < l.length) (hb : okb l[i].toNat = true) (hn : ∀ h2 : i + 2 < l.length, l[i + 1].toNat ≠ 45) : rowsL (l.drop i) = (rowsL (l.drop (i + 1))).map ((l[i].toNat, l[i].toNat) :: ·) := by
  rw [List.drop_eq_getElem_cons h]
  refine rowsL_one _ _ hb ?_
  intro b c q e
  have h1 : i + 2 < l.length := by
    have := congrArg List.length e
    simp at this
    omega
  have h2 := hn h1
  have e2 := congrArg (fun x => x[0]?) e
  simp [List.getElem?_drop] at e2
  rw [List.getElem?_eq_getElem (by omega)] at e2
  rw [← Option.some.inj e2]
  exact h2
theorem rows_row (l : List UInt8) (i : Nat) (h : i + 2 < l.length) (ha : okb l[i].toNat = true) (hb : l[i + 1].toNat = 45) (hr : rowOk l[i].toNat l[i + 2].toNat = true) : rowsL (l.drop i) = (rowsL (l.drop (i + 3))).map ((l[i].toNat, l[i + 2].toNat) :: ·) := by
  rw [List.drop_eq_getElem_cons (by omega : i < l.length), List.drop_eq_getElem_cons (by omega : i + 1 < l.length), List.drop_eq_getElem_cons (by omega : i + 1 + 1 < l.length)]
  exact rowsL_row _ _ _ _ ha hb hr
theorem rows_norow (l : List UInt8) (i : Nat) (h : i + 2 < l.length) (hb : l[i + 1].toNat = 45) (hr : rowOk l[i].toNat l[i + 2].toNat = false) : rowsL (l.drop i) = none := by
  rw [List.drop_eq_getElem_cons (by omega : i < l.length), List.drop_eq_getElem_cons (by omega : i + 1 < l.length), List.drop_eq_getElem_cons (by omega : i + 1 + 1 < l.length)]
  exact rowsL_norow _ _ _ _ hb hr

def GoodR (p : Nat × Nat) : Prop := okb p.1 = true ∧ okb p.2 = true ∧ p.1 ≤ p.2 ∧ (57 < p.2 ↔ 57 < p.1)
theorem rowOk_good {a c : Nat} (ha : okb a = true) (h : rowOk a c = true) : GoodR (a, c) := by
  simp only [rowOk, Bool.and_eq_true, decide_eq_true_eq, beq_iff_eq] at h
  refine ⟨ha, h.1.1, h.1.2, ?_⟩
  have := h.2
  simpa using this

theorem rowsL_good : ∀ (n : Nat) (l : List UInt8), l.length ≤ n → ∀ rs, rowsL l = some rs → (∀ p ∈ rs, GoodR p) ∧ (l ≠ [] → rs ≠ [])
  | 0, l, hl, rs, h => by
    obtain rfl : l = [] := List.length_eq_zero_iff.1 (by omega)
    simp [rowsL] at h
    subst h
    simp
  | n + 1, l, hl, rs, h => by
    match l, hl, h with
    | [], _, h =>
      simp [rowsL] at h
      subst h
      simp
    | a :: r, hl, h =>
      cases ha : okb a.toNat with
      | false => rw [rowsL_bad a r ha] at h; cases h
      | true =>
        have hg : GoodR (a.toNat, a.toNat) := ⟨ha, ha, Nat.le_refl _, Iff.rfl⟩
        by_cases hc : ∃ b c q, r = b :: c :: q ∧ b.toNat = 45
        · obtain ⟨b, c, q, rfl, hb⟩ := hc
          cases hr : rowOk a.toNat c.toNat with
          | false => rw [rowsL_norow a b c q hb hr] at h; cases h
          | true =>
            rw [rowsL_row a b c q ha hb hr] at h
            cases hq : rowsL q with
            | none => rw [hq] at h; cases h
            | some qs =>
              rw [hq] at h
              obtain rfl := Option.some.inj h
              have ih := rowsL_good n q (by simp at hl; omega) qs hq
              refine ⟨?_, fun _ => by simp⟩
              intro p hp
              rcases List.mem_cons.1 hp with rfl | hp
              · exact rowOk_good ha hr
              · exact ih.1 p hp
        · rw [rowsL_one a r ha (fun b c q e hb => hc ⟨b, c, q, e, hb⟩)] at h
          cases hq : rowsL r with
          | none => rw [hq] at h; cases h
          | some qs =>
            rw [hq] at h
            obtain rfl := Option.some.inj h
            have ih := rowsL_good n r (by simp at hl; omega) qs hq
            refine ⟨?_, fun _ => by simp⟩
            intro p hp
            rcases List.mem_cons.1 hp with rfl | hp
            · exact hg
            · exact ih.1 p hp

/-- Whether a text is a right set; what is in its rows, and in it. -/
def okL (l : List UInt8) : Bool := (rowsL l).isSome && (decide (1 ≤ l.length) && decide (l.length ≤ 12))
def inR (rs : List (Nat × Nat)) (x : Nat) : Bool := rs.any fun p => decide (p.1 ≤ x) && decide (x ≤ p.2)
def inL (l : List UInt8) (x : Nat) : Bool := okL l && inR ((rowsL l).getD []) x

theorem inR_iff (rs : List (Nat × Nat)) (x : Nat) : inR rs x = true ↔ ∃ p ∈ rs, p.1 ≤ x ∧ x ≤ p.2 := by simp [inR]

/- The mask. -/
def pos (n : Nat) : Nat := if n ≤ 57 then n - 48 else n - 97 + 16
def byteP (i : Nat) : Nat := if i < 16 then 48 + i else 97 + (i - 16)
def valid (i : Nat) : Bool := decide (i < 10) || (decide (16 ≤ i) && decide (i < 42))
theorem valid_iff (i : Nat) : valid i = true ↔ i < 10 ∨ (16 ≤ i ∧ i < 42) := by simp [valid]
theorem byteP_pos {n : Nat} (h : okb n = true) : byteP (pos n) = n ∧ valid (pos n) = true := by
  rw [okb_iff] at h
  rw [valid_iff]
  unfold byteP pos
  by_cases h1 : n ≤ 57
  · rw [if_pos h1, if_pos (by omega)]; omega
  · rw [if_neg h1, if_neg (by omega)]; omega

def rowM (p : Nat × Nat) : Nat := 2 ^ (pos p.2 + 1) - 2 ^ pos p.1
theorem testBit_span (a c i : Nat) (h : a ≤ c) : (2 ^ (c + 1) - 2 ^ a).testBit i = (decide (a ≤ i) && decide (i ≤ c)) := by
  obtain ⟨d, rfl⟩ : ∃ d, c = a + d := ⟨c - a, by omega⟩
  have e : 2 ^ (a + d + 1) - 2 ^ a = 2 ^ a * (2 ^ (d + 1) - 1) := by
    rw [Nat.mul_sub, Nat.mul_one, ← Nat.pow_add, Nat.add_assoc]
  rw [e, Nat.mul_comm, Nat.testBit_mul_two_pow, Nat.testBit_two_pow_sub_one]
  by_cases h1 : a ≤ i
  · simp only [h1, decide_true, Bool.true_and]
    apply decide_eq_decide.2
    omega
  · simp [h1]
theorem good_pos {p : Nat × Nat} (h : GoodR p) : pos p.1 ≤ pos p.2 ∧ pos p.2 < 42 := by
  obtain ⟨a, b, c, d⟩ := h
  rw [okb_iff] at a b
  unfold pos
  split <;> split <;> omega
theorem rowM_bit {p : Nat × Nat} (h : GoodR p) (i : Nat) : (rowM p).testBit i = (valid i && (decide (p.1 ≤ byteP i) && decide (byteP i ≤ p.2))) := by
  rw [rowM, testBit_span _ _ _ (good_pos h).1, Bool.eq_iff_iff]
  obtain ⟨a, b, c, d⟩ := h
  rw [okb_iff] at a b
  simp only [Bool.and_eq_true, decide_eq_true_eq, valid_iff]
  unfold pos byteP
  split <;> split <;> split <;> omega
theorem rowM_pos {p : Nat × Nat} (h : GoodR p) : rowM p ≠ 0 := by
  intro e
  have h1 := rowM_bit h (pos p.1)
  have h2 := byteP_pos h.1
  rw [e, h2.1, h2.2] at h1
  simp [h.2.2.1] at h1

def maskR (rs : List (Nat × Nat)) : Nat := rs.foldl (fun m p => m ||| rowM p) 0
theorem maskR_app (rs : List (Nat × Nat)) (p : Nat × Nat) : maskR (rs ++ [p]) = maskR rs ||| rowM p := by simp [maskR]
theorem fold_bit (rs : List (Nat × Nat)) (m i : Nat) : (rs.foldl (fun m p => m ||| rowM p) m).testBit i = (m.testBit i || rs.any fun p => (rowM p).testBit i) := by
  induction rs generalizing m with
  | nil => simp
  | cons p rs ih => rw [List.foldl_cons, ih, Nat.testBit_or, List.any_cons, Bool.or_assoc]
theorem maskR_bit (rs : List (Nat × Nat)) (hg : ∀ p ∈ rs, GoodR p) (i : Nat) : (maskR rs).testBit i = (valid i && inR rs (byteP i)) := by
  rw [maskR, fold_bit, Nat.zero_testBit, Bool.false_or, Bool.eq_iff_iff, List.any_eq_true, Bool.and_eq_true, inR_iff]
  constructor
  · rintro ⟨p, hp, h⟩
    rw [rowM_bit (hg p hp)] at h
    simp only [Bool.and_eq_true, decide_eq_true_eq] at h
    exact ⟨h.1, p, hp, h.2⟩
  · rintro ⟨hv, p, hp, h⟩
    refine ⟨p, hp, ?_⟩
    rw [rowM_bit (hg p hp)]
    simp [hv, h]
theorem testBit_lt {m : Nat} (h : ∀ i, m.testBit i = true → i < 42) : m < 4398046511104 := by
  have : m < 2 ^ 42 := by
    apply Nat.lt_pow_two_of_testBit
    intro i hi
    cases hb : m.testBit i with
    | false => rfl
    | true => have := h i hb; omega
  simpa using this

/-- A mask stands for a set. -/
def Rep (m : Nat) (f : Nat → Bool) : Prop := ∀ i, m.testBit i = (valid i && f (byteP i))
theorem Rep.lt {m : Nat} {f : Nat → Bool} (h : Rep m f) : m < 4398046511104 := testBit_lt fun i hi => by
  have h1 := h i
  rw [hi] at h1
  have h2 := h1.symm
  rw [Bool.and_eq_true, valid_iff] at h2
  omega
theorem Rep.zero : Rep 0 fun _ => false := fun i => by simp

def maskL (l : List UInt8) : Nat := if 12 < l.length then 0 else match rowsL l with
  | none => 0
  | some rs => maskR rs
theorem maskL_rep (l : List UInt8) : Rep (maskL l) (inL l) := by
  intro i
  unfold maskL inL okL
  by_cases h : 12 < l.length
  · rw [if_pos h, decide_eq_false (by omega : ¬ l.length ≤ 12)]; simp
  · rw [if_neg h]
    cases hr : rowsL l with
    | none => simp
    | some rs =>
      have hg := rowsL_good _ l (Nat.le_refl _) rs hr
      rw [maskR_bit rs hg.1 i]
      by_cases h0 : l = []
      · subst h0
        simp [rowsL] at hr
        subst hr
        simp [inR]
      · have h1 : 1 ≤ l.length := by
          cases l with
          | nil => exact absurd rfl h0
          | cons a r => simp
        simp [h1, (by omega : l.length ≤ 12)]
theorem maskL_ok (l : List UInt8) : okL l = (maskL l != 0) := by
  unfold maskL okL
  by_cases h : 12 < l.length
  · rw [if_pos h, decide_eq_false (by omega : ¬ l.length ≤ 12)]; simp
  · rw [if_neg h]
    cases hr : rowsL l with
    | none => simp
    | some rs =>
      have hg := rowsL_good _ l (Nat.le_refl _) rs hr
      by_cases h0 : l = []
      · subst h0
        simp [rowsL] at hr
        subst hr
        simp [maskR]
      · have h1 : 1 ≤ l.length := by
          cases l with
          | nil => exact absurd rfl h0
          | cons a r => simp
        have h2 : maskR rs ≠ 0 := by
          intro e
          obtain ⟨p, hp⟩ := List.exists_mem_of_ne_nil rs (hg.2 h0)
          have hb := maskR_bit rs hg.1 (pos p.1)
          have hgp := hg.1 p hp
          rw [e, (byteP_pos hgp.1).1, (byteP_pos hgp.1).2] at hb
          have h3 : inR rs p.1 = true := (inR_iff _ _).2 ⟨p, hp, Nat.le_refl _, hgp.2.2.1⟩
          simp [h3] at hb
        simp [h1, (by omega : l.length ≤ 12), h2]

end Go.Proofs.YtokidlklkgghkaaGreatDoor
