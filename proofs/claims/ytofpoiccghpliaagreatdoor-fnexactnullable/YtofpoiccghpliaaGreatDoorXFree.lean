/- EnvSet of the specification. -/
/- FreeOf of the specification: the names of an expression, in order. -/
import Derived.Test.YtofpoiccghpliaaGreatDoorDecPure
import Derived.Test.YtofpoiccghpliaaGreatDoorXOk
import Derived.Test.YtofpoiccghpliaaGreatDoorSKit
import Derived.Laws.AppendOwnNone
import Derived.Maps.AppendAt
namespace Go.Proofs.YtofpoiccghpliaaGreatDoor
open Go.RowKit

def ltS (a b : ByteArray) : Bool := Op.bytesLess a.toList b.toList
/-- Greater, as the program asks it. -/
def gtS (a b : ByteArray) : Bool := !(Op.bytesLess a.toList b.toList || a.toList == b.toList)
/-- With this number, in its place. -/
def putB (xs : List VarD) (name : ByteArray) (num : Int) : List VarD := xs.filter (fun x => ltS x.1 name) ++ [(name, num)] ++ xs.filter (fun x => gtS x.1 name)

/-- What EnvSet leaves, and whether it is right. -/
def setOk (xs : List VarD) (name : ByteArray) (num : Int) : Bool := envB (putB xs name num)
def setL (xs : List VarD) (name : ByteArray) (num : Int) : List VarD := if envB (putB xs name num) = true then putB xs name num else xs
theorem setL_yes {xs : List VarD} {name : ByteArray} {num : Int} (h : envB (putB xs name num) = true) : setL xs name num = putB xs name num := if_pos h
theorem setL_no {xs : List VarD} {name : ByteArray} {num : Int} (h : envB (putB xs name num) = false) : setL xs name num = xs := if_neg (by simp [h])

theorem two_at (w : World) (x y : Value) (t : TypeId) : ∀ j u, [x, y][j]? = some u → (w.alloc (.cells #[x, y] t)).cell? ((⟨w.heap.size, 0, none⟩ : Addr).add j) = some u := by
  intro j u h
  have hb : (w.alloc (.cells #[x, y] t)).heap[w.heap.size]? = some (.cells #[x, y] t) := heap_alloc_new w _
  rw [Addr.add_lit, Nat.zero_add, cell_of_row _ _ j _ _ _ hb]
  simpa using h
theorem two_cell (s : ByteArray) (n : Int) : ∀ u ∈ [Value.string s, Value.int .i64 n], u.oneCell' = true := by
  intro u hu
  rcases List.mem_cons.1 hu with rfl | hu
  · rfl
  · rcases List.mem_cons.1 hu with rfl | hu
    · rfl
    · cases hu

theorem filt_next (p : VarD → Bool) (xs : List VarD) (k : Nat) (h : k < xs.length) : (xs.take (k + 1)).filter p = (xs.take k).filter p ++ (if p xs[k] = true then [xs[k]] else []) := by
  rw [List.take_succ_eq_append_getElem h, List.filter_append, List.filter_cons, List.filter_nil]

end Go.Proofs.YtofpoiccghpliaaGreatDoor

namespace Go.Proofs.YtofpoiccghpliaaGreatDoor
open Go.RowKit

/-- A list of names with one more, in its place. -/
def putS (ss : List ByteArray) (s : ByteArray) : List ByteArray := ss.filter (fun t => ltS t s) ++ [s] ++ ss.filter (fun t => gtS t s)
theorem putS_len (ss : List ByteArray) (s : ByteArray) : (putS ss s).length ≤ 2 * ss.length + 1 := by
  have h1 := List.length_filter_le (fun t => ltS t s) ss
  have h2 := List.length_filter_le (fun t => gtS t s) ss
  rw [putS, List.length_append, List.length_append, List.length_singleton]
  omega
theorem one_cellF (s : ByteArray) : ∀ u ∈ [Value.string s], u.oneCell' = true := by
  intro u hu
  obtain rfl : u = .string s := by simpa using hu
  rfl
theorem filtS_next (p : ByteArray → Bool) (ss : List ByteArray) (k : Nat) (h : k < ss.length) : (ss.take (k + 1)).filter p = (ss.take k).filter p ++ (if p ss[k] = true then [ss[k]] else []) := by
  rw [List.take_succ_eq_append_getElem h, List.filter_append, List.filter_cons, List.filter_nil]
theorem ownB_snoc {B : Nat} {o v' : Value} {ys : List ByteArray} {x : ByteArray} {wr w2 : World} {ob : Obj} (hown2 : w2.ownsRow B 9 1 v' (ys.length + 1) (sb ys ++ [.string x])) (hown : OwnB B o ys wr) (hgrow : (wr.alloc ob).grownBy w2 o.ownBlock)
    {w : World} (hw : B = w.heap.size) (hb : Below w.heap.size w wr) : OwnB B v' (ys ++ [x]) w2 ∧ Below w.heap.size w w2 := by
  subst hw
  refine ⟨?_, ?_⟩
  · rw [OwnB, List.length_append, sb, List.map_append]
    exact hown2
  · exact (hb.alloc hb.size ob).grown hgrow (by have := hb.size; simp; omega) (fun k hk => (hown.lt k hk).1)

set_option maxHeartbeats 3200000 in
theorem l03Put_any (v : Value) (ss : List ByteArray) (s : ByteArray) (w : World) (hn : ss.length ≤ 1048576) (h : SRow w v ss) :
    Calls Tryz.prog 53 #[v, .string s] w fun e w' => ∃ o, e = .returned o ∧ OwnB w.heap.size o (putS ss s) w' ∧ Below w.heap.size w w' := by
  obtain ⟨i0, hi, hz0, hz1, hz2⟩ := info_parts Tryz.infoStr
  have HR : Hid (SRow w v ss) := h
  obtain ⟨a, cap, rfl⟩ := h.slice
  clear h
  go_enter Tryz.func53, Tryz.ntmps53
  go_wp2
  go_loopw [5, 6] (fun ov iv wr => ∃ k : Nat, iv = .int .i64 k ∧ k ≤ ss.length ∧ OwnB w.heap.size ov ((ss.take k).filter (fun t => ltS t s)) wr ∧ Below w.heap.size w wr) (fun _ iv _ => ss.length - (intOf iv).toNat)
  case atStart => exact ⟨0, rfl, Nat.zero_le _, World.ownsRow_made _ _ _ (Nat.le_refl _) (by decide) rfl, (Below.refl _ _).alloc (Nat.le_refl _) _⟩
  case round =>
    obtain ⟨k, rfl, hk, hown, hb⟩ := hrel
    have HO : Hid (OwnB w.heap.size u5 ((ss.take k).filter (fun t => ltS t s)) wr) := hown
    have HB : Hid (Below w.heap.size w wr) := hb
    have HRr : Hid (SRow wr (.slice a ss.length cap) ss) := HR.out.below hb
    clear hb hown
    by_cases hlt : k < ss.length
    · obtain ⟨b, off, rfl, hc1⟩ := HRr.out.at hlt
      have hfl : ((ss.take k).filter (fun t => ltS t s)).length ≤ k := Nat.le_trans (List.length_filter_le _ _) (by rw [List.length_take]; exact Nat.min_le_left _ _)
      have HF : Hid (_ = _) := filtS_next (fun t => ltS t s) ss k hlt
      generalize (ss.take k).filter (fun t => ltS t s) = ys at *
      cases hls : ltS ss[k] s with
      | true =>
        have ht : Op.bytesLess ss[k].toList s.toList = true := hls
        have HF2 : Hid ((ss.take (k + 1)).filter (fun t => ltS t s) = ys ++ [ss[k]]) := by have := HF.out; rwa [hls, if_pos rfl] at this
        clear hls HF
        go_wp2_with (at_builtin; refine wpList_append_own _ rfl _ _ 26 rfl w.heap.size 9 i0 _ 1 16 Tryz.underlying26 hi hz0 hz1 hz2 rfl (by decide) _ _ _ rfl (World.ownsRow.alloc HO.out _) ⟨wr.heap.size, 0, none⟩ 1 1 [.string ss[k]] rfl rfl (cell_one_new _ _ _) (one_cellF _) (by unfold maxLen; omega) (by omega) (by have h8 := HB.out.size; simp; omega) ?_)
        intro v' w2 hown2 hgrow _
        have R := ownB_snoc hown2 HO.out hgrow rfl HB.out
        clear hown2 hgrow
        go_wp2
        go_roundw
        case rel => exact ⟨k + 1, by go_num, by omega, by rw [HF2.out]; exact R.1, R.2⟩
        case measure => simp [intOf]; omega
      | false =>
        have ht : Op.bytesLess ss[k].toList s.toList = false := hls
        have HF2 : Hid ((ss.take (k + 1)).filter (fun t => ltS t s) = ys) := by have := HF.out; rwa [hls, if_neg (by simp), List.append_nil] at this
        clear hls HF
        go_wp2
        go_roundw
        case rel => exact ⟨k + 1, by go_num, by omega, by rw [HF2.out]; exact HO.out, HB.out⟩
        case measure => simp [intOf]; omega
    · obtain rfl : k = ss.length := by omega
      rw [List.take_of_length_le (Nat.le_refl _)] at HO
      have hfl : (ss.filter (fun t => ltS t s)).length ≤ ss.length := List.length_filter_le _ _
      generalize hys : ss.filter (fun t => ltS t s) = ys at *
      have HYs : Hid (ss.filter (fun t => ltS t s) = ys) := hys
      clear hys
      go_wp2_with (at_builtin; refine wpList_append_own _ rfl _ _ 26 rfl w.heap.size 9 i0 _ 1 16 Tryz.underlying26 hi hz0 hz1 hz2 rfl (by decide) _ _ _ rfl (World.ownsRow.alloc HO.out _) ⟨wr.heap.size, 0, none⟩ 1 1 [.string s] rfl rfl (cell_one_new _ _ _) (one_cellF _) (by unfold maxLen; omega) (by omega) (by have h8 := HB.out.size; simp; omega) ?_)
      intro v' w2 hown2 hgrow _
      have R := ownB_snoc hown2 HO.out hgrow rfl HB.out
      have HO2 : Hid (OwnB w.heap.size v' (ys ++ [s]) w2) := R.1
      have HB2 : Hid (Below w.heap.size w w2) := R.2
      clear hown2 hgrow R
      go_wp2
      go_loopw [5, 7] (fun ov iv wr => ∃ k : Nat, iv = .int .i64 k ∧ k ≤ ss.length ∧ OwnB w.heap.size ov (ys ++ [s] ++ (ss.take k).filter (fun t => gtS t s)) wr ∧ Below w.heap.size w wr) (fun _ iv _ => ss.length - (intOf iv).toNat)
      case atStart => exact ⟨0, rfl, Nat.zero_le _, by simpa using HO2.out, HB2.out⟩
      case round =>
        obtain ⟨k, rfl, hk, hown, hb⟩ := hrel
        have HO3 : Hid (OwnB w.heap.size u5 (ys ++ [s] ++ (ss.take k).filter (fun t => gtS t s)) wr) := hown
        have HB3 : Hid (Below w.heap.size w wr) := hb
        have HR3 : Hid (SRow wr (.slice a ss.length cap) ss) := HR.out.below hb
        clear hb hown
        by_cases hlt : k < ss.length
        · obtain ⟨b, off, rfl, hc1⟩ := HR3.out.at hlt
          have hf2 : (ys ++ [s] ++ (ss.take k).filter (fun t => gtS t s)).length ≤ ss.length + 1 + k := by
            have := List.length_filter_le (fun t => gtS t s) (ss.take k)
            rw [List.length_take] at this
            rw [List.length_append, List.length_append, List.length_singleton]
            omega
          have HF : Hid (ys ++ [s] ++ (ss.take (k + 1)).filter (fun t => gtS t s) = ys ++ [s] ++ (ss.take k).filter (fun t => gtS t s) ++ (if gtS ss[k] s = true then [ss[k]] else [])) := by
            rw [Hid, filtS_next (fun t => gtS t s) ss k hlt, ← List.append_assoc]
          generalize ys ++ [s] ++ (ss.take k).filter (fun t => gtS t s) = zs at *
          cases hls : gtS ss[k] s with
          | true =>
            have ht : (!(Op.bytesLess ss[k].toList s.toList || ss[k].toList == s.toList)) = true := hls
            have HF2 : Hid (ys ++ [s] ++ (ss.take (k + 1)).filter (fun t => gtS t s) = zs ++ [ss[k]]) := by have := HF.out; rwa [hls, if_pos rfl] at this
            clear hls HF
            go_wp2_with (at_builtin; refine wpList_append_own _ rfl _ _ 26 rfl w.heap.size 9 i0 _ 1 16 Tryz.underlying26 hi hz0 hz1 hz2 rfl (by decide) _ _ _ rfl (World.ownsRow.alloc HO3.out _) ⟨wr.heap.size, 0, none⟩ 1 1 [.string ss[k]] rfl rfl (cell_one_new _ _ _) (one_cellF _) (by unfold maxLen; omega) (by omega) (by have h8 := HB3.out.size; simp; omega) ?_)
            intro v' w2 hown2 hgrow _
            have R := ownB_snoc hown2 HO3.out hgrow rfl HB3.out
            clear hown2 hgrow
            go_wp2
            go_roundw
            case rel => exact ⟨k + 1, by go_num, by omega, by rw [HF2.out]; exact R.1, R.2⟩
            case measure => simp [intOf]; omega
          | false =>
            have ht : (!(Op.bytesLess ss[k].toList s.toList || ss[k].toList == s.toList)) = false := hls
            have HF2 : Hid (ys ++ [s] ++ (ss.take (k + 1)).filter (fun t => gtS t s) = zs) := by have := HF.out; rwa [hls, if_neg (by simp), List.append_nil] at this
            clear hls HF
            go_wp2
            go_roundw
            case rel => exact ⟨k + 1, by go_num, by omega, by rw [HF2.out]; exact HO3.out, HB3.out⟩
            case measure => simp [intOf]; omega
        · obtain rfl : k = ss.length := by omega
          rw [List.take_of_length_le (Nat.le_refl _)] at HO3
          have HP : Hid (OwnB w.heap.size u5 (putS ss s) wr) := by rw [Hid, putS, HYs.out]; exact HO3.out
          go_wp2
          go_ret
          exact ⟨_, rfl, HP.out, HB3.out⟩

/-- The names of an expression's nodes, in order. -/
def freeF (ns : List NodeD) : List ByteArray := ns.foldl (fun ss x => if x.op = 2 then putS ss x.name else ss) []
def freeB (ns : List NodeD) : List ByteArray := if exprB ns = true then freeF ns else []
theorem freeF_next (ns : List NodeD) (k : Nat) (h : k < ns.length) : freeF (ns.take (k + 1)) = if ns[k].op = 2 then putS (freeF (ns.take k)) ns[k].name else freeF (ns.take k) := by
  rw [List.take_succ_eq_append_getElem h, freeF, List.foldl_append]
  rfl
theorem freeF_len (ns : List NodeD) : ∀ k, k ≤ ns.length → (freeF (ns.take k)).length + 1 ≤ 2 ^ k
  | 0, _ => by simp [freeF]
  | k + 1, h => by
    have ih := freeF_len ns k (by omega)
    rw [freeF_next ns k (by omega), Nat.pow_succ]
    split
    · have := putS_len (freeF (ns.take k)) ns[k].name
      omega
    · omega
theorem two_pow_20 {k : Nat} (h : k ≤ 20) : 2 ^ k ≤ 1048576 := by
  have := Nat.pow_le_pow_right (n := 2) (by omega) h
  simpa using this

set_option maxHeartbeats 1600000 in
set_option maxRecDepth 100000 in
theorem specFreeOf_any (v : Value) (ns : List NodeD) (w : World) (hin : NIn ns) (h : NRow w v ns) :
    Calls Tryz.prog 81 #[.agg #[v]] w fun e w' => ∃ o, e = .returned o ∧ OwnB w.heap.size o (freeB ns) w' ∧ Below w.heap.size w w' := by
  have HR : Hid (NRow w v ns) := h
  have HIn : Hid (NIn ns) := hin
  obtain ⟨a, cap, rfl⟩ := h.slice
  clear h hin
  have hg0 : (w.alloc (.cells #[.slice a ns.length cap] 107)).heap.size = w.heap.size + 1 := by simp
  have B0 : Hid (Below w.heap.size w ((w.alloc (.cells #[.slice a ns.length cap] 107)).alloc (.cells #[] 9))) := ((Below.refl _ _).alloc (Nat.le_refl _) _).alloc (by simp) _
  have E0 : Hid (((w.alloc (.cells #[.slice a ns.length cap] 107)).alloc (.cells #[] 9)).cell? ⟨w.heap.size, 0, none⟩ = some (.slice a ns.length cap)) := cell_keep (lit_one _ _ _) ((Below.refl _ _).alloc (Nat.le_refl _) _)
  have O0 : Hid (OwnB w.heap.size (.slice (some ⟨w.heap.size + 1, 0, none⟩) 0 0) [] ((w.alloc (.cells #[.slice a ns.length cap] 107)).alloc (.cells #[] 9))) := by
    have := World.ownsRow_made (base := w.heap.size) (w.alloc (.cells #[.slice a ns.length cap] 107)) #[] 0 (e := 9) (size := 1) (by rw [hg0]; omega) (by decide) rfl
    rw [hg0] at this
    exact this
  cases hex : exprB ns with
  | false =>
    have HEx : Hid (∀ W, NRow W (.slice a ns.length cap) ns → _) := fun W => specExprOk_is (.slice a ns.length cap) ns false hex W HIn.out
    have HF : Hid (freeB ns = []) := by rw [Hid, freeB, hex]; rfl
    rw [HF.out]
    clear hex
    go_enter Tryz.func81, Tryz.ntmps81
    go_wp2_with fail
    refine (HEx.out _ (HR.out.below B0.out)).mono ?_
    rintro e w1 ⟨rfl, hb1⟩
    have B1 : Hid (Below w.heap.size w w1) := B0.out.trans (hb1.mono B0.out.size)
    have O1 : Hid (OwnB w.heap.size (.slice (some ⟨w.heap.size + 1, 0, none⟩) 0 0) [] w1) := O0.out.below hb1
    clear hb1
    go_wp2
    go_ret
    exact ⟨_, rfl, O1.out, B1.out⟩
  | true =>
    have HEx : Hid (∀ W, NRow W (.slice a ns.length cap) ns → _) := fun W => specExprOk_is (.slice a ns.length cap) ns true hex W HIn.out
    have HF : Hid (freeB ns = freeF ns) := by rw [Hid, freeB, hex]; rfl
    have hl := (exprB_at hex).1
    rw [HF.out]
    clear hex
    go_enter Tryz.func81, Tryz.ntmps81
    go_wp2_with fail
    refine (HEx.out _ (HR.out.below B0.out)).mono ?_
    rintro e w1 ⟨rfl, hb1⟩
    have B1 : Hid (Below w.heap.size w w1) := B0.out.trans (hb1.mono B0.out.size)
    have E1 : Hid (w1.cell? ⟨w.heap.size, 0, none⟩ = some (.slice a ns.length cap)) := cell_keep E0.out hb1
    have O1 : Hid (OwnB w.heap.size (.slice (some ⟨w.heap.size + 1, 0, none⟩) 0 0) [] w1) := O0.out.below hb1
    clear hb1 E0 O0 B0
    go_wp2
    go_loopw [3, 4] (fun ov iv wr => ∃ k : Nat, iv = .int .i64 k ∧ k ≤ ns.length ∧ OwnB w.heap.size ov (freeF (ns.take k)) wr ∧ Below w1.heap.size w1 wr) (fun _ iv _ => ns.length - (intOf iv).toNat)
    case atStart => exact ⟨0, rfl, Nat.zero_le _, O1.out, Below.refl _ _⟩
    case round =>
      obtain ⟨k, rfl, hk, hown, hbw⟩ := hrel
      have HO : Hid (OwnB w.heap.size u3 (freeF (ns.take k)) wr) := hown
      have HBr : Hid (Below w1.heap.size w1 wr) := hbw
      have HB : Hid (Below w.heap.size w wr) := B1.out.trans (hbw.mono B1.out.size)
      have hE := cell_keep E1.out hbw
      clear hown hbw
      by_cases hlt : k < ns.length
      · obtain ⟨b, off, kv, rfl, n0, n1, n2, n3, hI⟩ := (HR.out.below HB.out).at hlt
        have HNx : Hid (_ = _) := freeF_next ns k hlt
        have hle := freeF_len ns k (by omega)
        have hp := two_pow_20 (k := k) (by omega)
        have hle2 : (freeF (ns.take k)).length ≤ 1048576 := by omega
        have i4 : (k : Int) < (ns.length : Int) := by omega
        clear hle hp hI n1 n3
        generalize freeF (ns.take k) = zs at *
        by_cases ho : ns[k].op = 2
        · have HNx2 : Hid (freeF (ns.take (k + 1)) = putS zs ns[k].name) := by have := HNx.out; rwa [if_pos ho] at this
          have HP : Hid (∀ W, SRow W u3 zs → _) := fun W hv => l03Put_any u3 zs ns[k].name W hle2 hv
          rw [ho] at n0
          clear HNx ho
          go_wp2_with fail
          refine (HP.out _ HO.out.row).mono ?_
          rintro e w2 ⟨o2, rfl, ho2, hb2⟩
          have HO2 : Hid (OwnB w.heap.size o2 (putS zs ns[k].name) w2) := by
            refine ⟨ho2.1, ?_⟩
            rcases ho2.2 with h | ⟨g, cp, cur, e, hg, r⟩
            · exact .inl h
            · exact .inr ⟨g, cp, cur, e, Nat.le_trans HB.out.size hg, r⟩
          have HB2 : Hid (Below w1.heap.size w1 w2) := HBr.out.trans (hb2.mono HBr.out.size)
          clear ho2 hb2
          go_wp2
          go_roundw
          case rel => exact ⟨k + 1, by go_num, by omega, by rw [HNx2.out]; exact HO2.out, HB2.out⟩
          case measure => simp [intOf]; omega
        · have HNx2 : Hid (freeF (ns.take (k + 1)) = zs) := by have := HNx.out; rwa [if_neg ho] at this
          clear HNx
          go_wp2
          go_roundw
          case rel => exact ⟨k + 1, by go_num, by omega, by rw [HNx2.out]; exact HO.out, HBr.out⟩
          case measure => simp [intOf]; omega
      · obtain rfl : k = ns.length := by omega
        rw [List.take_of_length_le (Nat.le_refl _)] at HO
        have i4 : ¬ (ns.length : Int) < (ns.length : Int) := by omega
        go_wp2
        go_ret
        exact ⟨_, rfl, HO.out, HB.out⟩

end Go.Proofs.YtofpoiccghpliaaGreatDoor
