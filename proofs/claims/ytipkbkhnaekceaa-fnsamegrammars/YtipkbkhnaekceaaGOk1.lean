/- EnvSet of the specification. -/
/- FreeOf of the specification: the names of an expression, in order. -/
/- EnvOnly of the specification. -/
/- The specification's l06Text, l06Known, l06Args and l06Params. -/
import Derived.Test.YtipkbkhnaekceaaRO
import Derived.Test.YtipkbkhnaekceaaXOk
import Derived.Test.YtipkbkhnaekceaaXPure
import Derived.Test.YtipkbkhnaekceaaGRule
import Derived.Test.YtipkbkhnaekceaaSetSpec
import Derived.Laws.AppendOwnNone
import Derived.Maps.AppendAt
import Derived.Deep.QuietTactic
import Derived.BigQuiet
namespace Go.Proofs.Ytipkbkhnaekceaa
open Go.RowKit

def ltS (a b : ByteArray) : Bool := Op.bytesLess a.toList b.toList
/-- Greater, as the program asks it. -/
def gtS (a b : ByteArray) : Bool := !(Op.bytesLess a.toList b.toList || a.toList == b.toList)

end Go.Proofs.Ytipkbkhnaekceaa

namespace Go.Proofs.Ytipkbkhnaekceaa
open Go.RowKit

/-- A list of names with one more, in its place. -/
def putS (ss : List ByteArray) (s : ByteArray) : List ByteArray := ss.filter (fun t => ltS t s) ++ [s] ++ ss.filter (fun t => gtS t s)
theorem putS_len (ss : List ByteArray) (s : ByteArray) : (putS ss s).length ≤ 2 * ss.length + 1 := by
  have h1 := List.length_filter_le (fun t => ltS t s) ss
  have h2 := List.length_filter_le (fun t => gtS t s) ss
  rw [putS, List.length_append, List.length_append, List.length_singleton]
  omega
theorem one_cellF (s : ByteArray) : ∀ u ∈ [Value.string s], u.oneCell' = true := by
  intro u hu
  obtain rfl : u = .string s := by simpa using hu
  rfl
theorem filtS_next (p : ByteArray → Bool) (ss : List ByteArray) (k : Nat) (h : k < ss.length) : (ss.take (k + 1)).filter p = (ss.take k).filter p ++ (if p ss[k] = true then [ss[k]] else []) := by
  rw [List.take_succ_eq_append_getElem h, List.filter_append, List.filter_cons, List.filter_nil]
theorem ownB_snoc {B : Nat} {o v' : Value} {ys : List ByteArray} {x : ByteArray} {wr w2 : World} {ob : Obj} (hown2 : w2.ownsRow B 9 1 v' (ys.length + 1) (sb ys ++ [.string x])) (hown : OwnB B o ys wr) (hgrow : (wr.alloc ob).grownBy w2 o.ownBlock)
    {w : World} (hw : B = w.heap.size) (hb : Below w.heap.size w wr) : OwnB B v' (ys ++ [x]) w2 ∧ Below w.heap.size w w2 := by
  subst hw
  refine ⟨?_, ?_⟩
  · rw [OwnB, List.length_append, sb, List.map_append]
    exact hown2
  · exact (hb.alloc hb.size ob).grown hgrow (by have := hb.size; simp; omega) (fun k hk => (hown.lt k hk).1)

set_option maxHeartbeats 3200000 in
theorem l03Put_any (v : Value) (ss : List ByteArray) (s : ByteArray) (w : World) (hn : ss.length ≤ 1048576) (h : SRow w v ss) :
    Calls Try.prog 62 #[v, .string s] w fun e w' => ∃ o, e = .returned o ∧ OwnB w.heap.size o (putS ss s) w' ∧ Below w.heap.size w w' := by
  obtain ⟨i0, hi, hz0, hz1, hz2⟩ := info_parts Try.infoStr
  have HR : Hid (SRow w v ss) := h
  obtain ⟨a, cap, rfl⟩ := h.slice
  clear h
  go_enter Try.func62, Try.ntmps62
  go_wp2
  go_loopw [5, 6] (fun ov iv wr => ∃ k : Nat, iv = .int .i64 k ∧ k ≤ ss.length ∧ OwnB w.heap.size ov ((ss.take k).filter (fun t => ltS t s)) wr ∧ Below w.heap.size w wr) (fun _ iv _ => ss.length - (intOf iv).toNat)
  case atStart => exact ⟨0, rfl, Nat.zero_le _, World.ownsRow_made _ _ _ (Nat.le_refl _) (by decide) rfl, (Below.refl _ _).alloc (Nat.le_refl _) _⟩
  case round =>
    obtain ⟨k, rfl, hk, hown, hb⟩ := hrel
    have HO : Hid (OwnB w.heap.size u5 ((ss.take k).filter (fun t => ltS t s)) wr) := hown
    have HB : Hid (Below w.heap.size w wr) := hb
    have HRr : Hid (SRow wr (.slice a ss.length cap) ss) := HR.out.below hb
    clear hb hown
    by_cases hlt : k < ss.length
    · obtain ⟨b, off, rfl, hc1⟩ := HRr.out.at hlt
      have hfl : ((ss.take k).filter (fun t => ltS t s)).length ≤ k := Nat.le_trans (List.length_filter_le _ _) (by rw [List.length_take]; exact Nat.min_le_left _ _)
      have HF : Hid (_ = _) := filtS_next (fun t => ltS t s) ss k hlt
      generalize (ss.take k).filter (fun t => ltS t s) = ys at *
      cases hls : ltS ss[k] s with
      | true =>
        have ht : Op.bytesLess ss[k].toList s.toList = true := hls
        have HF2 : Hid ((ss.take (k + 1)).filter (fun t => ltS t s) = ys ++ [ss[k]]) := by have := HF.out; rwa [hls, if_pos rfl] at this
        clear hls HF
        go_wp2_with (at_builtin; refine wpList_append_own _ rfl _ _ 37 rfl w.heap.size 9 i0 _ 1 16 Try.underlying37 hi hz0 hz1 hz2 rfl (by decide) _ _ _ rfl (World.ownsRow.alloc HO.out _) ⟨wr.heap.size, 0, none⟩ 1 1 [.string ss[k]] rfl rfl (cell_one_new _ _ _) (one_cellF _) (by unfold maxLen; omega) (by omega) (by have h8 := HB.out.size; simp; omega) ?_)
        intro v' w2 hown2 hgrow _
        have R := ownB_snoc hown2 HO.out hgrow rfl HB.out
        clear hown2 hgrow
        go_wp2
        go_roundw
        case rel => exact ⟨k + 1, by go_num, by omega, by rw [HF2.out]; exact R.1, R.2⟩
        case measure => simp [intOf]; omega
      | false =>
        have ht : Op.bytesLess ss[k].toList s.toList = false := hls
        have HF2 : Hid ((ss.take (k + 1)).filter (fun t => ltS t s) = ys) := by have := HF.out; rwa [hls, if_neg (by simp), List.append_nil] at this
        clear hls HF
        go_wp2
        go_roundw
        case rel => exact ⟨k + 1, by go_num, by omega, by rw [HF2.out]; exact HO.out, HB.out⟩
        case measure => simp [intOf]; omega
    · obtain rfl : k = ss.length := by omega
      rw [List.take_of_length_le (Nat.le_refl _)] at HO
      have hfl : (ss.filter (fun t => ltS t s)).length ≤ ss.length := List.length_filter_le _ _
      generalize hys : ss.filter (fun t => ltS t s) = ys at *
      have HYs : Hid (ss.filter (fun t => ltS t s) = ys) := hys
      clear hys
      go_wp2_with (at_builtin; refine wpList_append_own _ rfl _ _ 37 rfl w.heap.size 9 i0 _ 1 16 Try.underlying37 hi hz0 hz1 hz2 rfl (by decide) _ _ _ rfl (World.ownsRow.alloc HO.out _) ⟨wr.heap.size, 0, none⟩ 1 1 [.string s] rfl rfl (cell_one_new _ _ _) (one_cellF _) (by unfold maxLen; omega) (by omega) (by have h8 := HB.out.size; simp; omega) ?_)
      intro v' w2 hown2 hgrow _
      have R := ownB_snoc hown2 HO.out hgrow rfl HB.out
      have HO2 : Hid (OwnB w.heap.size v' (ys ++ [s]) w2) := R.1
      have HB2 : Hid (Below w.heap.size w w2) := R.2
      clear hown2 hgrow R
      go_wp2
      go_loopw [5, 7] (fun ov iv wr => ∃ k : Nat, iv = .int .i64 k ∧ k ≤ ss.length ∧ OwnB w.heap.size ov (ys ++ [s] ++ (ss.take k).filter (fun t => gtS t s)) wr ∧ Below w.heap.size w wr) (fun _ iv _ => ss.length - (intOf iv).toNat)
      case atStart => exact ⟨0, rfl, Nat.zero_le _, by simpa using HO2.out, HB2.out⟩
      case round =>
        obtain ⟨k, rfl, hk, hown, hb⟩ := hrel
        have HO3 : Hid (OwnB w.heap.size u5 (ys ++ [s] ++ (ss.take k).filter (fun t => gtS t s)) wr) := hown
        have HB3 : Hid (Below w.heap.size w wr) := hb
        have HR3 : Hid (SRow wr (.slice a ss.length cap) ss) := HR.out.below hb
        clear hb hown
        by_cases hlt : k < ss.length
        · obtain ⟨b, off, rfl, hc1⟩ := HR3.out.at hlt
          have hf2 : (ys ++ [s] ++ (ss.take k).filter (fun t => gtS t s)).length ≤ ss.length + 1 + k := by
            have := List.length_filter_le (fun t => gtS t s) (ss.take k)
            rw [List.length_take] at this
            rw [List.length_append, List.length_append, List.length_singleton]
            omega
          have HF : Hid (ys ++ [s] ++ (ss.take (k + 1)).filter (fun t => gtS t s) = ys ++ [s] ++ (ss.take k).filter (fun t => gtS t s) ++ (if gtS ss[k] s = true then [ss[k]] else [])) := by
            rw [Hid, filtS_next (fun t => gtS t s) ss k hlt, ← List.append_assoc]
          generalize ys ++ [s] ++ (ss.take k).filter (fun t => gtS t s) = zs at *
          cases hls : gtS ss[k] s with
          | true =>
            have ht : (!(Op.bytesLess ss[k].toList s.toList || ss[k].toList == s.toList)) = true := hls
            have HF2 : Hid (ys ++ [s] ++ (ss.take (k + 1)).filter (fun t => gtS t s) = zs ++ [ss[k]]) := by have := HF.out; rwa [hls, if_pos rfl] at this
            clear hls HF
            go_wp2_with (at_builtin; refine wpList_append_own _ rfl _ _ 37 rfl w.heap.size 9 i0 _ 1 16 Try.underlying37 hi hz0 hz1 hz2 rfl (by decide) _ _ _ rfl (World.ownsRow.alloc HO3.out _) ⟨wr.heap.size, 0, none⟩ 1 1 [.string ss[k]] rfl rfl (cell_one_new _ _ _) (one_cellF _) (by unfold maxLen; omega) (by omega) (by have h8 := HB3.out.size; simp; omega) ?_)
            intro v' w2 hown2 hgrow _
            have R := ownB_snoc hown2 HO3.out hgrow rfl HB3.out
            clear hown2 hgrow
            go_wp2
            go_roundw
            case rel => exact ⟨k + 1, by go_num, by omega, by rw [HF2.out]; exact R.1, R.2⟩
            case measure => simp [intOf]; omega
          | false =>
            have ht : (!(Op.bytesLess ss[k].toList s.toList || ss[k].toList == s.toList)) = false := hls
            have HF2 : Hid (ys ++ [s] ++ (ss.take (k + 1)).filter (fun t => gtS t s) = zs) := by have := HF.out; rwa [hls, if_neg (by simp), List.append_nil] at this
            clear hls HF
            go_wp2
            go_roundw
            case rel => exact ⟨k + 1, by go_num, by omega, by rw [HF2.out]; exact HO3.out, HB3.out⟩
            case measure => simp [intOf]; omega
        · obtain rfl : k = ss.length := by omega
          rw [List.take_of_length_le (Nat.le_refl _)] at HO3
          have HP : Hid (OwnB w.heap.size u5 (putS ss s) wr) := by rw [Hid, putS, HYs.out]; exact HO3.out
          go_wp2
          go_ret
          exact ⟨_, rfl, HP.out, HB3.out⟩

/-- The names of an expression's nodes, in order. -/
def freeF (ns : List NodeD) : List ByteArray := ns.foldl (fun ss x => if x.op = 2 then putS ss x.name else ss) []
def freeB (ns : List NodeD) : List ByteArray := if exprB ns = true then freeF ns else []
theorem freeF_next (ns : List NodeD) (k : Nat) (h : k < ns.length) : freeF (ns.take (k + 1)) = if ns[k].op = 2 then putS (freeF (ns.take k)) ns[k].name else freeF (ns.take k) := by
  rw [List.take_succ_eq_append_getElem h, freeF, List.foldl_append]
  rfl
theorem freeF_len (ns : List NodeD) : ∀ k, k ≤ ns.length → (freeF (ns.take k)).length + 1 ≤ 2 ^ k
  | 0, _ => by simp [freeF]
  | k + 1, h => by
    have ih := freeF_len ns k (by omega)
    rw [freeF_next ns k (by omega), Nat.pow_succ]
    split
    · have := putS_len (freeF (ns.take k)) ns[k].name
      omega
    · omega
theorem two_pow_20 {k : Nat} (h : k ≤ 20) : 2 ^ k ≤ 1048576 := by
  have := Nat.pow_le_pow_right (n := 2) (by omega) h
  simpa using this

set_option maxHeartbeats 1600000 in
set_option maxRecDepth 100000 in
theorem specFreeOf_any (v : Value) (ns : List NodeD) (w : World) (hin : NIn ns) (h : NRow w v ns) :
    Calls Try.prog 90 #[.agg #[v]] w fun e w' => ∃ o, e = .returned o ∧ OwnB w.heap.size o (freeB ns) w' ∧ Below w.heap.size w w' := by
  have HR : Hid (NRow w v ns) := h
  have HIn : Hid (NIn ns) := hin
  obtain ⟨a, cap, rfl⟩ := h.slice
  clear h hin
  have hg0 : (w.alloc (.cells #[.slice a ns.length cap] 55)).heap.size = w.heap.size + 1 := by simp
  have B0 : Hid (Below w.heap.size w ((w.alloc (.cells #[.slice a ns.length cap] 55)).alloc (.cells #[] 9))) := ((Below.refl _ _).alloc (Nat.le_refl _) _).alloc (by simp) _
  have E0 : Hid (((w.alloc (.cells #[.slice a ns.length cap] 55)).alloc (.cells #[] 9)).cell? ⟨w.heap.size, 0, none⟩ = some (.slice a ns.length cap)) := cell_keep (lit_one _ _ _) ((Below.refl _ _).alloc (Nat.le_refl _) _)
  have O0 : Hid (OwnB w.heap.size (.slice (some ⟨w.heap.size + 1, 0, none⟩) 0 0) [] ((w.alloc (.cells #[.slice a ns.length cap] 55)).alloc (.cells #[] 9))) := by
    have := World.ownsRow_made (base := w.heap.size) (w.alloc (.cells #[.slice a ns.length cap] 55)) #[] 0 (e := 9) (size := 1) (by rw [hg0]; omega) (by decide) rfl
    rw [hg0] at this
    exact this
  cases hex : exprB ns with
  | false =>
    have HEx : Hid (∀ W, NRow W (.slice a ns.length cap) ns → _) := fun W => specExprOk_is (.slice a ns.length cap) ns false hex W HIn.out
    have HF : Hid (freeB ns = []) := by rw [Hid, freeB, hex]; rfl
    rw [HF.out]
    clear hex
    go_enter Try.func90, Try.ntmps90
    go_wp2_with fail
    refine (HEx.out _ (HR.out.below B0.out)).mono ?_
    rintro e w1 ⟨rfl, hb1⟩
    have B1 : Hid (Below w.heap.size w w1) := B0.out.trans (hb1.mono B0.out.size)
    have O1 : Hid (OwnB w.heap.size (.slice (some ⟨w.heap.size + 1, 0, none⟩) 0 0) [] w1) := O0.out.below hb1
    clear hb1
    go_wp2
    go_ret
    exact ⟨_, rfl, O1.out, B1.out⟩
  | true =>
    have HEx : Hid (∀ W, NRow W (.slice a ns.length cap) ns → _) := fun W => specExprOk_is (.slice a ns.length cap) ns true hex W HIn.out
    have HF : Hid (freeB ns = freeF ns) := by rw [Hid, freeB, hex]; rfl
    have hl := (exprB_at hex).1
    rw [HF.out]
    clear hex
    go_enter Try.func90, Try.ntmps90
    go_wp2_with fail
    refine (HEx.out _ (HR.out.below B0.out)).mono ?_
    rintro e w1 ⟨rfl, hb1⟩
    have B1 : Hid (Below w.heap.size w w1) := B0.out.trans (hb1.mono B0.out.size)
    have E1 : Hid (w1.cell? ⟨w.heap.size, 0, none⟩ = some (.slice a ns.length cap)) := cell_keep E0.out hb1
    have O1 : Hid (OwnB w.heap.size (.slice (some ⟨w.heap.size + 1, 0, none⟩) 0 0) [] w1) := O0.out.below hb1
    clear hb1 E0 O0 B0
    go_wp2
    go_loopw [3, 4] (fun ov iv wr => ∃ k : Nat, iv = .int .i64 k ∧ k ≤ ns.length ∧ OwnB w.heap.size ov (freeF (ns.take k)) wr ∧ Below w1.heap.size w1 wr) (fun _ iv _ => ns.length - (intOf iv).toNat)
    case atStart => exact ⟨0, rfl, Nat.zero_le _, O1.out, Below.refl _ _⟩
    case round =>
      obtain ⟨k, rfl, hk, hown, hbw⟩ := hrel
      have HO : Hid (OwnB w.heap.size u3 (freeF (ns.take k)) wr) := hown
      have HBr : Hid (Below w1.heap.size w1 wr) := hbw
      have HB : Hid (Below w.heap.size w wr) := B1.out.trans (hbw.mono B1.out.size)
      have hE := cell_keep E1.out hbw
      clear hown hbw
      by_cases hlt : k < ns.length
      · obtain ⟨b, off, kv, rfl, n0, n1, n2, n3, hI⟩ := (HR.out.below HB.out).at hlt
        have HNx : Hid (_ = _) := freeF_next ns k hlt
        have hle := freeF_len ns k (by omega)
        have hp := two_pow_20 (k := k) (by omega)
        have hle2 : (freeF (ns.take k)).length ≤ 1048576 := by omega
        have i4 : (k : Int) < (ns.length : Int) := by omega
        clear hle hp hI n1 n3
        generalize freeF (ns.take k) = zs at *
        by_cases ho : ns[k].op = 2
        · have HNx2 : Hid (freeF (ns.take (k + 1)) = putS zs ns[k].name) := by have := HNx.out; rwa [if_pos ho] at this
          have HP : Hid (∀ W, SRow W u3 zs → _) := fun W hv => l03Put_any u3 zs ns[k].name W hle2 hv
          rw [ho] at n0
          clear HNx ho
          go_wp2_with fail
          refine (HP.out _ HO.out.row).mono ?_
          rintro e w2 ⟨o2, rfl, ho2, hb2⟩
          have HO2 : Hid (OwnB w.heap.size o2 (putS zs ns[k].name) w2) := by
            refine ⟨ho2.1, ?_⟩
            rcases ho2.2 with h | ⟨g, cp, cur, e, hg, r⟩
            · exact .inl h
            · exact .inr ⟨g, cp, cur, e, Nat.le_trans HB.out.size hg, r⟩
          have HB2 : Hid (Below w1.heap.size w1 w2) := HBr.out.trans (hb2.mono HBr.out.size)
          clear ho2 hb2
          go_wp2
          go_roundw
          case rel => exact ⟨k + 1, by go_num, by omega, by rw [HNx2.out]; exact HO2.out, HB2.out⟩
          case measure => simp [intOf]; omega
        · have HNx2 : Hid (freeF (ns.take (k + 1)) = zs) := by have := HNx.out; rwa [if_neg ho] at this
          clear HNx
          go_wp2
          go_roundw
          case rel => exact ⟨k + 1, by go_num, by omega, by rw [HNx2.out]; exact HO.out, HBr.out⟩
          case measure => simp [intOf]; omega
      · obtain rfl : k = ns.length := by omega
        rw [List.take_of_length_le (Nat.le_refl _)] at HO
        have i4 : ¬ (ns.length : Int) < (ns.length : Int) := by omega
        go_wp2
        go_ret
        exact ⟨_, rfl, HO.out, HB.out⟩

end Go.Proofs.Ytipkbkhnaekceaa

namespace Go.Proofs.Ytipkbkhnaekceaa
open Go.RowKit

def inB (ss : List ByteArray) (s : ByteArray) : Bool := ss.any (fun t => decide (t = s))
theorem inB_iff (ss : List ByteArray) (s : ByteArray) : inB ss s = true ↔ s ∈ ss := by simp [inB]

set_option maxHeartbeats 800000 in
theorem specIn_any (v : Value) (ss : List ByteArray) (s : ByteArray) (w : World) (hn : ss.length ≤ 1048576) (h : SRow w v ss) :
    Calls Try.prog 63 #[v, .string s] w fun e w' => e = .returned (.bool (inB ss s)) ∧ w' = w := by
  have HR : Hid (SRow w v ss) := h
  obtain ⟨a, cap, rfl⟩ := h.slice
  clear h
  go_enter Try.func63, Try.ntmps63
  go_wp2
  go_loop [5] (fun iv => ∃ k : Nat, iv = .int .i64 k ∧ k ≤ ss.length ∧ ∀ j (hj : j < ss.length), j < k → ss[j] ≠ s) (fun iv => ss.length - (intOf iv).toNat)
  case atStart => exact ⟨0, rfl, Nat.zero_le _, fun _ _ h => by omega⟩
  case round =>
    obtain ⟨k, rfl, hk, hj⟩ := hrel
    have HJ : Hid (∀ j (hj : j < ss.length), j < k → ss[j] ≠ s) := hj
    clear hj
    by_cases hlt : k < ss.length
    · obtain ⟨b, off, rfl, hc1⟩ := HR.out.at hlt
      by_cases hnm : ss[k] = s
      · have ht := beq_yes hnm
        have HV : Hid (inB ss s = true) := by rw [Hid, inB_iff, ← hnm]; exact List.getElem_mem _
        clear hnm
        go_wp2
        go_ret
        rw [HV.out]
        exact ⟨rfl, rfl⟩
      · have ht := beq_no hnm
        go_wp2
        go_round
        case rel =>
          refine ⟨k + 1, by go_num, by omega, fun j hj hjk => ?_⟩
          by_cases e : j = k
          · subst e; exact hnm
          · exact HJ.out j hj (by omega)
        case measure => simp [intOf]; omega
    · have HV : Hid (inB ss s = false) := by
        rw [Hid, ← Bool.not_eq_true, inB_iff]
        intro hm
        obtain ⟨j, hj, e⟩ := List.getElem_of_mem hm
        exact HJ.out j hj (by omega) e
      go_wp2
      go_ret
      rw [HV.out]
      exact ⟨rfl, rfl⟩

end Go.Proofs.Ytipkbkhnaekceaa

namespace Go.Proofs.Ytipkbkhnaekceaa
open Go.RowKit

/-- The signs that a text may have beside letters and figures. -/
def moreL : List Nat := [43, 45, 42, 94, 40, 41, 91, 93, 58, 44, 59, 46, 61, 60, 62]
def okM (k c : Nat) : Bool := okb c || (moreL.take k).any (· == c)
theorem okM_next (k c : Nat) (h : k < 15) : okM (k + 1) c = (okM k c || (moreL[k]'h == c)) := by
  rw [okM, okM, List.take_succ_eq_append_getElem (show k < moreL.length from h), List.any_append, Bool.or_assoc]
  simp
  rfl
def sign6 (c : Nat) : Bool := okM 15 c
def text6To (s : ByteArray) (k : Nat) : Bool := (s.data.toList.take k).all fun u => sign6 u.toNat
def text6 (s : ByteArray) : Bool := text6To s s.size && decide ((1 : Int) ≤ s.size ∧ (s.size : Int) ≤ 8)
theorem text6To_next (s : ByteArray) (k : Nat) (h : k < s.size) : text6To s (k + 1) = (text6To s k && sign6 s[k].toNat) := by
  rw [text6To, List.take_succ_eq_append_getElem (by simpa using h), List.all_append, ← text6To]
  simp
  rfl
theorem text6_no (s : ByteArray) (k : Nat) (h : k < s.size) (hc : sign6 s[k].toNat = false) : text6 s = false := by
  have : text6To s s.size = false := by
    rw [text6To, List.all_eq_false]
    refine ⟨s.data.toList[k]'(by simpa using h), ?_, ?_⟩
    · rw [List.take_of_length_le (by simp)]; exact List.getElem_mem _
    · show ¬ sign6 s[k].toNat = true
      rw [hc]; decide
  rw [text6, this]; rfl

set_option maxHeartbeats 3200000 in
set_option maxRecDepth 100000 in
theorem l06Text_any (s : ByteArray) (w : World) (hs : s.size ≤ 1048576) :
    Calls Try.prog 59 #[.string s] w fun e w' => e = .returned (.bool (text6 s)) ∧ ∃ q, w' = w.drewN q := by
  have HMo : Hid (∀ k (h : k < 15), ((⟨#[43, 45, 42, 94, 40, 41, 91, 93, 58, 44, 59, 46, 61, 60, 62]⟩ : ByteArray)[k]'h).toNat = moreL[k]'h) := fun k h => by
    have all : ∀ k : Fin 15, ((⟨#[43, 45, 42, 94, 40, 41, 91, 93, 58, 44, 59, 46, 61, 60, 62]⟩ : ByteArray)[k.1]'k.2).toNat = moreL[k.1]'k.2 := by decide
    exact all ⟨k, h⟩
  go_enter Try.func59, Try.ntmps59
  go_wp2
  go_loopw [4] (fun iv wr => ∃ i q : Nat, iv = .int .i64 i ∧ i ≤ s.size ∧ text6To s i = true ∧ wr = w.drewN q) (fun iv _ => s.size - (intOf iv).toNat)
  case atStart => exact ⟨0, 0, rfl, Nat.zero_le _, rfl, rfl⟩
  case round =>
    obtain ⟨i, q, rfl, hi, hto, hwr⟩ := hrel
    have HW : Hid (wr = w.drewN q) := hwr
    have HTo : Hid (text6To s i = true) := hto
    clear hwr hto
    by_cases hlt : i < s.size
    · have hu := s[i].toNat_lt
      have HNx : Hid (_ = _) := text6To_next s i hlt
      have HNo : Hid (sign6 s[i].toNat = false → text6 s = false) := fun h => text6_no s i hlt h
      have H0 : Hid (okM 0 s[i].toNat = okb s[i].toNat) := by simp [Hid, okM]
      have i4 : (i : Int) < (s.size : Int) := by omega
      have i5 : (0 : Int) ≤ (i : Int) := by omega
      go_wp2_with (go_at_call 79; refine (byte5_any _ (by omega) _).mono ?_; rintro e wq ⟨rfl, hw⟩; rw [hw]; clear hw)
      go_loopw [5, 6] (fun ov kv ww => ∃ k q' : Nat, ov = .bool (okM k s[i].toNat) ∧ kv = .int .i64 k ∧ k ≤ 15 ∧ ww = w.drewN q') (fun _ kv _ => 15 - (intOf kv).toNat)
      case atStart => exact ⟨0, q, by rw [H0.out], rfl, by omega, HW.out⟩
      case round =>
        obtain ⟨k, q', rfl, rfl, hk, hwr⟩ := hrel
        clear HW
        have HW : Hid (wr = w.drewN q') := hwr
        clear hwr
        by_cases hk15 : k < 15
        · have HM := HMo.out k hk15
          have HNk : Hid (_ = _) := okM_next k s[i].toNat hk15
          have k4 : (k : Int) < 15 := by omega
          have k5 : (0 : Int) ≤ (k : Int) := by omega
          cases hm : okM k s[i].toNat with
          | true =>
            go_wp2
            go_big_quiet (fail)
            go_wp2
            go_roundw
            case rel => exact ⟨k + 1, q' + nq, by rw [HNk.out, hm]; rfl, by go_num, by omega, by rw [HW.out, World.drewN_drewN]⟩
            case measure => simp [intOf]; omega
          | false =>
            have HB : Hid ((((moreL[k]'hk15 : Nat) : Int) == (s[i].toNat : Int)) = okM (k + 1) s[i].toNat) := by
              rw [Hid, HNk.out, hm, Bool.false_or, Bool.eq_iff_iff]
              simp only [beq_iff_eq]
              omega
            go_wp2
            go_big_quiet (fail)
            go_wp2
            go_roundw
            case rel => exact ⟨k + 1, q' + nq, by rw [← HB.out], by go_num, by omega, by rw [HW.out, World.drewN_drewN]⟩
            case measure => simp [intOf]; omega
        · obtain rfl : k = 15 := by omega
          cases hm : okM 15 s[i].toNat with
          | true =>
            go_wp2
            go_roundw
            case rel => exact ⟨i + 1, q', by go_num, by omega, by rw [HNx.out, HTo.out, sign6, hm]; rfl, HW.out⟩
            case measure => simp [intOf]; omega
          | false =>
            have HV : Hid (text6 s = false) := HNo.out hm
            go_wp2
            go_ret
            rw [HV.out]
            exact ⟨rfl, q', HW.out⟩
    · obtain rfl : i = s.size := by omega
      have HV : Hid (text6 s = decide ((1 : Int) ≤ s.size ∧ (s.size : Int) ≤ 8)) := by rw [Hid, text6, HTo.out]; rfl
      go_wp2_with (go_at_call 29; refine (in_any _ 1 8 _).mono ?_; rintro e wq ⟨rfl, hw⟩; rw [hw]; clear hw)
      go_ret
      rw [HV.out]
      exact ⟨congrArg (fun x => Ending.returned (Value.bool x)) (by simp), q, HW.out⟩

def knownB (ns : List NodeD) (known : List ByteArray) : Bool := (freeB ns).all (inB known) && exprB ns
theorem free_len (ns : List NodeD) : (freeB ns).length ≤ 1048576 := by
  unfold freeB
  split
  · rename_i h
    have h1 := freeF_len ns ns.length (Nat.le_refl _)
    rw [List.take_length] at h1
    have h2 : ns.length ≤ 20 := by
      unfold exprB inI at h
      simp at h
      omega
    have h3 : 2 ^ ns.length ≤ 2 ^ 20 := Nat.pow_le_pow_right (by decide) h2
    have h4 : (2 : Nat) ^ 20 = 1048576 := by decide
    omega
  · simp

set_option maxHeartbeats 1600000 in
theorem l06Known_any (v u : Value) (ns : List NodeD) (known : List ByteArray) (w : World) (hk : known.length ≤ 1048576) (hin : NIn ns) (h : NRow w v ns) (h' : SRow w u known) :
    Calls Try.prog 81 #[.agg #[v], u] w fun e w' => e = .returned (.bool (knownB ns known)) ∧ Below w.heap.size w w' := by
  have HR : Hid (NRow w v ns) := h
  have HK : Hid (SRow w u known) := h'
  obtain ⟨a, cap, rfl⟩ := h.slice
  obtain ⟨a', cap', rfl⟩ := h'.slice
  clear h h'
  have hfl := free_len ns
  have B0 : Hid (Below w.heap.size w (w.alloc (.cells #[.slice a ns.length cap] 55))) := (Below.refl _ _).alloc (Nat.le_refl _) _
  have E0 : Hid ((w.alloc (.cells #[.slice a ns.length cap] 55)).cell? ⟨w.heap.size, 0, none⟩ = some (.slice a ns.length cap)) := box_at _ _ _ 0 _ rfl
  go_enter Try.func81, Try.ntmps81
  go_wp2_with fail
  refine (specFreeOf_any _ ns _ hin (HR.out.below B0.out)).mono ?_
  rintro e w1 ⟨o, rfl, ho, hb1⟩
  have B1 : Hid (Below w.heap.size w w1) := B0.out.trans (hb1.mono B0.out.size)
  have hE1 := cell_keep E0.out hb1
  have HF : Hid (SRow w1 o (freeB ns)) := ho.row
  obtain ⟨af, cf, rfl⟩ := ho.row.slice
  clear ho hb1 B0 E0
  go_wp2
  go_loopw [6] (fun iv wr => ∃ k : Nat, iv = .int .i64 k ∧ k ≤ (freeB ns).length ∧ ((freeB ns).take k).all (inB known) = true ∧ wr = w1) (fun iv _ => (freeB ns).length - (intOf iv).toNat)
  case atStart => exact ⟨0, rfl, Nat.zero_le _, rfl, rfl⟩
  case round =>
    obtain ⟨k, rfl, hkl, hall, hwr⟩ := hrel
    rw [hwr]
    clear hwr
    have HAl : Hid (((freeB ns).take k).all (inB known) = true) := hall
    clear hall
    by_cases hlt : k < (freeB ns).length
    · obtain ⟨b, off, rfl, hc1⟩ := HF.out.at hlt
      have HIn : Hid (∀ W, Below w.heap.size w W → _) := fun W hb => specIn_any (.slice a' known.length cap') known (freeB ns)[k] W hk (HK.out.below hb)
      have HNx : Hid (((freeB ns).take (k + 1)).all (inB known) = inB known (freeB ns)[k]) := by
        rw [Hid, List.take_succ_eq_append_getElem hlt, List.all_append, HAl.out]
        simp
      cases hm : inB known (freeB ns)[k] with
      | true =>
        go_wp2_with (go_at_call 63; refine (HIn.out _ B1.out).mono ?_; rw [hm]; rintro e wq ⟨rfl, hw⟩; rw [hw]; clear hw)
        go_roundw
        case rel => exact ⟨k + 1, by go_num, by omega, by rw [HNx.out]; exact hm, (by first | rfl | trivial)⟩
        case measure => simp [intOf]; omega
      | false =>
        have HV : Hid (knownB ns known = false) := by
          have : (freeB ns).all (inB known) = false := by
            rw [List.all_eq_false]
            exact ⟨_, List.getElem_mem hlt, by rw [hm]; decide⟩
          rw [Hid, knownB, this]
          rfl
        go_wp2_with (go_at_call 63; refine (HIn.out _ B1.out).mono ?_; rw [hm]; rintro e wq ⟨rfl, hw⟩; rw [hw]; clear hw)
        go_ret
        rw [HV.out]
        exact ⟨rfl, B1.out⟩
    · obtain rfl : k = (freeB ns).length := by omega
      have HV : Hid (knownB ns known = exprB ns) := by
        have := HAl.out
        rw [List.take_length] at this
        rw [Hid, knownB, this]
        rfl
      go_wp2_with fail
      refine (specExprOk_any _ ns _ hin (HR.out.below B1.out)).mono ?_
      rintro e w2 ⟨rfl, hb2⟩
      have B2 : Hid (Below w.heap.size w w2) := B1.out.trans (hb2.mono B1.out.size)
      clear hb2
      go_wp2
      go_ret
      rw [HV.out]
      exact ⟨rfl, B2.out⟩

def argsB (ags : List (List NodeD)) (known : List ByteArray) : Bool := ags.all fun ns => knownB ns known
set_option maxHeartbeats 1600000 in
theorem l06Args_any (v u : Value) (ags : List (List NodeD)) (known : List ByteArray) (w : World) (hk : known.length ≤ 1048576) (hn : ags.length ≤ 1048576) (hin : ∀ ns ∈ ags, NIn ns) (h : RowC 1 ExprE w v ags) (h' : SRow w u known) :
    Calls Try.prog 61 #[v, u] w fun e w' => e = .returned (.bool (argsB ags known)) ∧ Below w.heap.size w w' := by
  have HR : Hid (RowC 1 ExprE w v ags) := h
  have HK : Hid (SRow w u known) := h'
  have HIn : Hid (∀ ns ∈ ags, NIn ns) := hin
  obtain ⟨a, cap, rfl⟩ := h.slice
  obtain ⟨a', cap', rfl⟩ := h'.slice
  clear h h' hin
  go_enter Try.func61, Try.ntmps61
  go_wp2
  go_loopw [5] (fun iv wr => ∃ k : Nat, iv = .int .i64 k ∧ k ≤ ags.length ∧ (ags.take k).all (fun ns => knownB ns known) = true ∧ Below w.heap.size w wr) (fun iv _ => ags.length - (intOf iv).toNat)
  case atStart => exact ⟨0, rfl, Nat.zero_le _, rfl, Below.refl _ _⟩
  case round =>
    obtain ⟨k, rfl, hkl, hall, hb⟩ := hrel
    have HAl : Hid ((ags.take k).all (fun ns => knownB ns known) = true) := hall
    have HB : Hid (Below w.heap.size w wr) := hb
    have HRr : Hid (RowC 1 ExprE wr (.slice a ags.length cap) ags) := RowC.below ExprE_stable HR.out hb
    clear hall hb
    by_cases hlt : k < ags.length
    · obtain ⟨b, off, vs, rfl, _, hc, hE⟩ := HRr.out.at hlt
      obtain ⟨r0, rfl, hh⟩ := hE
      have n0 : wr.cell? ⟨b, off + k, none⟩ = some r0 := by have h := hc 0 (by simp); rw [Nat.mul_one] at h; exact h
      have HC : Hid (∀ W, Below wr.heap.size wr W → _) := fun W hb => l06Known_any r0 (.slice a' known.length cap') ags[k] known W hk (HIn.out _ (List.getElem_mem hlt)) (hh.below hb) (HK.out.below (HB.out.trans (hb.mono HB.out.size)))
      have HNx : Hid ((ags.take (k + 1)).all (fun ns => knownB ns known) = knownB ags[k] known) := by
        rw [Hid, List.take_succ_eq_append_getElem hlt, List.all_append, HAl.out]
        simp
      obtain ⟨aa0, ca0, rfl⟩ := hh.slice
      clear hc hh
      go_wp2_with fail
      refine (HC.out _ (Below.refl _ _)).mono ?_
      rintro e w1 ⟨rfl, hb1⟩
      have B1 : Hid (Below w.heap.size w w1) := HB.out.trans (hb1.mono HB.out.size)
      clear hb1
      cases hm : knownB ags[k] known with
      | true =>
        go_wp2
        go_roundw
        case rel => exact ⟨k + 1, by go_num, by omega, by rw [HNx.out]; exact hm, B1.out⟩
        case measure => simp [intOf]; omega
      | false =>
        have HV : Hid (argsB ags known = false) := by
          rw [Hid, argsB, List.all_eq_false]
          exact ⟨_, List.getElem_mem hlt, by rw [hm]; decide⟩
        go_wp2
        go_ret
        rw [HV.out]
        exact ⟨rfl, B1.out⟩
    · obtain rfl : k = ags.length := by omega
      have HV : Hid (argsB ags known = true) := by
        have := HAl.out
        rw [List.take_length] at this
        exact this
      go_wp2
      go_ret
      rw [HV.out]
      exact ⟨rfl, HB.out⟩

end Go.Proofs.Ytipkbkhnaekceaa
