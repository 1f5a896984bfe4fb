/- FreeOf of the specification: the names of an expression, in order. -/
import Derived.Test.YtgibdhpfmojnkaaXOk
import Derived.Test.YtgibdhpfmojnkaaEnvSet
import Derived.Test.YtgibdhpfmojnkaaSKit
import Derived.Maps.AppendAt
namespace Go.Proofs.Ytgibdhpfmojnkaa
open Go.RowKit

/-- A list of names with one more, in its place. -/
def putS (ss : List ByteArray) (s : ByteArray) : List ByteArray := ss.filter (fun t => ltS t s) ++ [s] ++ ss.filter (fun t => gtS t s)
theorem putS_len (ss : List ByteArray) (s : ByteArray) : (putS ss s).length ≤ 2 * ss.length + 1 := by
  have h1 := List.length_filter_le (fun t => ltS t s) ss
  have h2 := List.length_filter_le (fun t => gtS t s) ss
  rw [putS, List.length_append, List.length_append, List.length_singleton]
  omega
theorem one_cellF (s : ByteArray) : ∀ u ∈ [Value.string s], u.oneCell' = true := by
  intro u hu
  obtain rfl : u = .string s := by simpa using hu
  rfl
theorem filtS_next (p : ByteArray → Bool) (ss : List ByteArray) (k : Nat) (h : k < ss.length) : (ss.take (k + 1)).filter p = (ss.take k).filter p ++ (if p ss[k] = true then [ss[k]] else []) := by
  rw [List.take_succ_eq_append_getElem h, List.filter_append, List.filter_cons, List.filter_nil]
theorem ownB_snoc {B : Nat} {o v' : Value} {ys : List ByteArray} {x : ByteArray} {wr w2 : World} {ob : Obj} (hown2 : w2.ownsRow B 9 1 v' (ys.length + 1) (sb ys ++ [.string x])) (hown : OwnB B o ys wr) (hgrow : (wr.alloc ob).grownBy w2 o.ownBlock)
    {w : World} (hw : B = w.heap.size) (hb : Below w.heap.size w wr) : OwnB B v' (ys ++ [x]) w2 ∧ Below w.heap.size w w2 := by
  subst hw
  refine ⟨?_, ?_⟩
  · rw [OwnB, List.length_append, sb, List.map_append]
    exact hown2
  · exact (hb.alloc hb.size ob).grown hgrow (by have := hb.size; simp; omega) (fun k hk => (hown.lt k hk).1)

set_option maxHeartbeats 3200000 in
theorem l03Put_any (v : Value) (ss : List ByteArray) (s : ByteArray) (w : World) (hn : ss.length ≤ 1048576) (h : SRow w v ss) :
    Calls Try.prog 15 #[v, .string s] w fun e w' => ∃ o, e = .returned o ∧ OwnB w.heap.size o (putS ss s) w' ∧ Below w.heap.size w w' := by
  obtain ⟨i0, hi, hz0, hz1, hz2⟩ := info_parts Try.infoStr
  have HR : Hid (SRow w v ss) := h
  obtain ⟨a, cap, rfl⟩ := h.slice
  clear h
  go_enter Try.func15, Try.ntmps15
  go_wp2
  go_loopw [5, 6] (fun ov iv wr => ∃ k : Nat, iv = .int .i64 k ∧ k ≤ ss.length ∧ OwnB w.heap.size ov ((ss.take k).filter (fun t => ltS t s)) wr ∧ Below w.heap.size w wr) (fun _ iv _ => ss.length - (intOf iv).toNat)
  case atStart => exact ⟨0, rfl, Nat.zero_le _, World.ownsRow_made _ _ _ (Nat.le_refl _) (by decide) rfl, (Below.refl _ _).alloc (Nat.le_refl _) _⟩
  case round =>
    obtain ⟨k, rfl, hk, hown, hb⟩ := hrel
    have HO : Hid (OwnB w.heap.size u5 ((ss.take k).filter (fun t => ltS t s)) wr) := hown
    have HB : Hid (Below w.heap.size w wr) := hb
    have HRr : Hid (SRow wr (.slice a ss.length cap) ss) := HR.out.below hb
    clear hb hown
    by_cases hlt : k < ss.length
    · obtain ⟨b, off, rfl, hc1⟩ := HRr.out.at hlt
      have hfl : ((ss.take k).filter (fun t => ltS t s)).length ≤ k := Nat.le_trans (List.length_filter_le _ _) (by rw [List.length_take]; exact Nat.min_le_left _ _)
      have HF : Hid (_ = _) := filtS_next (fun t => ltS t s) ss k hlt
      generalize (ss.take k).filter (fun t => ltS t s) = ys at *
      cases hls : ltS ss[k] s with
      | true =>
        have ht : Op.bytesLess ss[k].toList s.toList = true := hls
        have HF2 : Hid ((ss.take (k + 1)).filter (fun t => ltS t s) = ys ++ [ss[k]]) := by have := HF.out; rwa [hls, if_pos rfl] at this
        clear hls HF
        go_wp2_with (at_builtin; refine wpList_append_own _ rfl _ _ 26 rfl w.heap.size 9 i0 _ 1 16 Try.underlying26 hi hz0 hz1 hz2 rfl (by decide) _ _ _ rfl (World.ownsRow.alloc HO.out _) ⟨wr.heap.size, 0, none⟩ 1 1 [.string ss[k]] rfl rfl (cell_one_new _ _ _) (one_cellF _) (by unfold maxLen; omega) (by omega) (by have h8 := HB.out.size; simp; omega) ?_)
        intro v' w2 hown2 hgrow _
        have R := ownB_snoc hown2 HO.out hgrow rfl HB.out
        clear hown2 hgrow
        go_wp2
        go_roundw
        case rel => exact ⟨k + 1, by go_num, by omega, by rw [HF2.out]; exact R.1, R.2⟩
        case measure => simp [intOf]; omega
      | false =>
        have ht : Op.bytesLess ss[k].toList s.toList = false := hls
        have HF2 : Hid ((ss.take (k + 1)).filter (fun t => ltS t s) = ys) := by have := HF.out; rwa [hls, if_neg (by simp), List.append_nil] at this
        clear hls HF
        go_wp2
        go_roundw
        case rel => exact ⟨k + 1, by go_num, by omega, by rw [HF2.out]; exact HO.out, HB.out⟩
        case measure => simp [intOf]; omega
    · obtain rfl : k = ss.length := by omega
      rw [List.take_of_length_le (Nat.le_refl _)] at HO
      have hfl : (ss.filter (fun t => ltS t s)).length ≤ ss.length := List.length_filter_le _ _
      generalize hys : ss.filter (fun t => ltS t s) = ys at *
      have HYs : Hid (ss.filter (fun t => ltS t s) = ys) := hys
      clear hys
      go_wp2_with (at_builtin; refine wpList_append_own _ rfl _ _ 26 rfl w.heap.size 9 i0 _ 1 16 Try.underlying26 hi hz0 hz1 hz2 rfl (by decide) _ _ _ rfl (World.ownsRow.alloc HO.out _) ⟨wr.heap.size, 0, none⟩ 1 1 [.string s] rfl rfl (cell_one_new _ _ _) (one_cellF _) (by unfold maxLen; omega) (by omega) (by have h8 := HB.out.size; simp; omega) ?_)
      intro v' w2 hown2 hgrow _
      have R := ownB_snoc hown2 HO.out hgrow rfl HB.out
      have HO2 : Hid (OwnB w.heap.size v' (ys ++ [s]) w2) := R.1
      have HB2 : Hid (Below w.heap.size w w2) := R.2
      clear hown2 hgrow R
      go_wp2
      go_loopw [5, 7] (fun ov iv wr => ∃ k : Nat, iv = .int .i64 k ∧ k ≤ ss.length ∧ OwnB w.heap.size ov (ys ++ [s] ++ (ss.take k).filter (fun t => gtS t s)) wr ∧ Below w.heap.size w wr) (fun _ iv _ => ss.length - (intOf iv).toNat)
      case atStart => exact ⟨0, rfl, Nat.zero_le _, by simpa using HO2.out, HB2.out⟩
      case round =>
        obtain ⟨k, rfl, hk, hown, hb⟩ := hrel
        have HO3 : Hid (OwnB w.heap.size u5 (ys ++ [s] ++ (ss.take k).filter (fun t => gtS t s)) wr) := hown
        have HB3 : Hid (Below w.heap.size w wr) := hb
        have HR3 : Hid (SRow wr (.slice a ss.length cap) ss) := HR.out.below hb
        clear hb hown
        by_cases hlt : k < ss.length
        · obtain ⟨b, off, rfl, hc1⟩ := HR3.out.at hlt
          have hf2 : (ys ++ [s] ++ (ss.take k).filter (fun t => gtS t s)).length ≤ ss.length + 1 + k := by
            have := List.length_filter_le (fun t => gtS t s) (ss.take k)
            rw [List.length_take] at this
            rw [List.length_append, List.length_append, List.length_singleton]
            omega
          have HF : Hid (ys ++ [s] ++ (ss.take (k + 1)).filter (fun t => gtS t s) = ys ++ [s] ++ (ss.take k).filter (fun t => gtS t s) ++ (if gtS ss[k] s = true then [ss[k]] else [])) := by
            rw [Hid, filtS_next (fun t => gtS t s) ss k hlt, ← List.append_assoc]
          generalize ys ++ [s] ++ (ss.take k).filter (fun t => gtS t s) = zs at *
          cases hls : gtS ss[k] s with
          | true =>
            have ht : (!(Op.bytesLess ss[k].toList s.toList || ss[k].toList == s.toList)) = true := hls
            have HF2 : Hid (ys ++ [s] ++ (ss.take (k + 1)).filter (fun t => gtS t s) = zs ++ [ss[k]]) := by have := HF.out; rwa [hls, if_pos rfl] at this
            clear hls HF
            go_wp2_with (at_builtin; refine wpList_append_own _ rfl _ _ 26 rfl w.heap.size 9 i0 _ 1 16 Try.underlying26 hi hz0 hz1 hz2 rfl (by decide) _ _ _ rfl (World.ownsRow.alloc HO3.out _) ⟨wr.heap.size, 0, none⟩ 1 1 [.string ss[k]] rfl rfl (cell_one_new _ _ _) (one_cellF _) (by unfold maxLen; omega) (by omega) (by have h8 := HB3.out.size; simp; omega) ?_)
            intro v' w2 hown2 hgrow _
            have R := ownB_snoc hown2 HO3.out hgrow rfl HB3.out
            clear hown2 hgrow
            go_wp2
            go_roundw
            case rel => exact ⟨k + 1, by go_num, by omega, by rw [HF2.out]; exact R.1, R.2⟩
            case measure => simp [intOf]; omega
          | false =>
            have ht : (!(Op.bytesLess ss[k].toList s.toList || ss[k].toList == s.toList)) = false := hls
            have HF2 : Hid (ys ++ [s] ++ (ss.take (k + 1)).filter (fun t => gtS t s) = zs) := by have := HF.out; rwa [hls, if_neg (by simp), List.append_nil] at this
            clear hls HF
            go_wp2
            go_roundw
            case rel => exact ⟨k + 1, by go_num, by omega, by rw [HF2.out]; exact HO3.out, HB3.out⟩
            case measure => simp [intOf]; omega
        · obtain rfl : k = ss.length := by omega
          rw [List.take_of_length_le (Nat.le_refl _)] at HO3
          have HP : Hid (OwnB w.heap.size u5 (putS ss s) wr) := by rw [Hid, putS, HYs.out]; exact HO3.out
          go_wp2
          go_ret
          exact ⟨_, rfl, HP.out, HB3.out⟩

/-- The names of an expression's nodes, in order. -/
def freeF (ns : List NodeD) : List ByteArray := ns.foldl (fun ss x => if x.op = 2 then putS ss x.name else ss) []
def freeB (ns : List NodeD) : List ByteArray := if exprB ns = true then freeF ns else []
theorem freeF_next (ns : List NodeD) (k : Nat) (h : k < ns.length) : freeF (ns.take (k + 1)) = if ns[k].op = 2 then putS (freeF (ns.take k)) ns[k].name else freeF (ns.take k) := by
  rw [List.take_succ_eq_append_getElem h, freeF, List.foldl_append]
  rfl
theorem freeF_len (ns : List NodeD) : ∀ k, k ≤ ns.length → (freeF (ns.take k)).length + 1 ≤ 2 ^ k
  | 0, _ => by simp [freeF]
  | k + 1, h => by
    have ih := freeF_len ns k (by omega)
    rw [freeF_next ns k (by omega), Nat.pow_succ]
    split
    · have := putS_len (freeF (ns.take k)) ns[k].name
      omega
    · omega
theorem two_pow_20 {k : Nat} (h : k ≤ 20) : 2 ^ k ≤ 1048576 := by
  have := Nat.pow_le_pow_right (n := 2) (by omega) h
  simpa using this


end Go.Proofs.Ytgibdhpfmojnkaa
