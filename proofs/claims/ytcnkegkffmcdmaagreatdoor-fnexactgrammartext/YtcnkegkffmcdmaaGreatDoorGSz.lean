/- The laws' own helpers on expressions: how great they are, copied. -/
/- The laws' helpers on grammars: how great they are (printed by mk/gkit.py). -/
import Derived.Test.YtcnkegkffmcdmaaGreatDoorXOk
import Derived.Test.YtcnkegkffmcdmaaGreatDoorGData
import Derived.Handy
import Derived.OwnWalk
import Derived.Laws.OwnMore
namespace Go.Proofs.YtcnkegkffmcdmaaGreatDoor
open Go.RowKit

/-- How much the nodes hold. -/
def totN (ns : List NodeD) : Nat := (ns.map fun x => x.name.size + x.kids.length).sum
theorem totN_next (ns : List NodeD) (k : Nat) (h : k < ns.length) : totN (ns.take (k + 1)) = totN (ns.take k) + (ns[k].name.size + ns[k].kids.length) := by
  rw [List.take_succ_eq_append_getElem h]
  simp only [totN, List.map_append, List.sum_append, List.map_cons, List.map_nil, List.sum_cons, List.sum_nil, Nat.add_zero]
theorem totN_mem {ns : List NodeD} {x : NodeD} (h : x ∈ ns) : x.name.size + x.kids.length ≤ totN ns := by
  induction ns with
  | nil => cases h
  | cons y ns ih =>
    simp only [totN, List.map_cons, List.sum_cons]
    rcases List.mem_cons.1 h with rfl | h
    · omega
    · have := ih h; simp only [totN] at this; omega

theorem szIntS_any (a : Option Addr) (n cap : Nat) (left : Int) (w : World) (h0 : 0 ≤ left) (h1 : left ≤ 1048576) (hn : n ≤ maxLen) :
    Calls Tryz.prog 160 #[.slice a n cap, .int .i64 left] w fun e w' => ∃ r : Int, e = .returned (.int .i64 r) ∧ (r = -1 ∨ (0 ≤ r ∧ r + n = left)) ∧ w' = w := by
  unfold maxLen at hn
  by_cases h : left < n
  · have h2 : left - (n : Int) < 0 := by omega
    go_enter Tryz.func160, Tryz.ntmps160
    go_wp2
    go_ret
    exact ⟨_, rfl, .inl rfl, rfl⟩
  · go_enter Tryz.func160, Tryz.ntmps160
    go_wp2
    go_ret
    exact ⟨_, rfl, .inr ⟨by omega, by omega⟩, rfl⟩

theorem szExNode_any (op num : Int) (name : ByteArray) (a : Option Addr) (n cap : Nat) (left : Int) (w : World) (h0 : 0 ≤ left) (h1 : left ≤ 1048576) (hs : name.size ≤ maxLen) (hn : n ≤ maxLen) :
    Calls Tryz.prog 148 #[.agg #[.int .i64 op, .int .i64 num, .string name, .slice a n cap], .int .i64 left] w fun e w' => ∃ r : Int, e = .returned (.int .i64 r) ∧ (r = -1 ∨ (0 ≤ r ∧ r + (name.size + n : Nat) = left)) ∧ Below w.heap.size w w' := by
  have hs2 : name.size ≤ 9223372036854775807 := by unfold maxLen at hs; omega
  by_cases h : left < name.size
  · have h2 : left - (name.size : Int) < 0 := by omega
    go_enter Tryz.func148, Tryz.ntmps148
    go_wp2
    go_ret
    exact ⟨_, rfl, .inl rfl, (Below.refl _ _).alloc (Nat.le_refl _) _⟩
  · have h2 : ¬ left - (name.size : Int) < 0 := by omega
    have BW : Hid (Below w.heap.size w (w.alloc (.cells #[.int .i64 op, .int .i64 num, .string name, .slice a n cap] 215))) := (Below.refl _ _).alloc (Nat.le_refl _) _
    have HZ : Hid (∀ W, _) := fun W => szIntS_any a n cap (left - (name.size : Int)) W (by omega) (by omega) hn
    go_enter Tryz.func148, Tryz.ntmps148
    go_wp2_with fail
    refine (HZ.out _).mono ?_
    rintro e wq ⟨r, rfl, hr, hw⟩
    rw [hw]
    clear hw wq
    rcases hr with rfl | ⟨hr0, hr1⟩
    · go_wp2
      go_ret
      exact ⟨_, rfl, .inl rfl, BW.out⟩
    · have hr2 : ¬ r < 0 := by omega
      go_wp2
      go_ret
      exact ⟨_, rfl, .inr ⟨hr0, by omega⟩, BW.out⟩

set_option maxHeartbeats 800000 in
theorem szExNodeS_any (v : Value) (ns : List NodeD) (left : Int) (w : World) (h0 : 0 ≤ left) (h1 : left ≤ 1048576) (h : NArg w v ns) :
    Calls Tryz.prog 128 #[v, .int .i64 left] w fun e w' => ∃ r : Int, e = .returned (.int .i64 r) ∧ (r = -1 ∨ (0 ≤ r ∧ r + ns.length + totN ns = left)) ∧ Below w.heap.size w w' := by
  obtain ⟨hr, hm, hz⟩ := h
  have HR : Hid (NRow w v ns) := hr
  have HZ : Hid (∀ x ∈ ns, NodeIn x) := hz
  obtain ⟨a, cap, rfl⟩ := hr.slice
  clear hr hz
  unfold maxLen at hm
  by_cases hl : left < ns.length
  · have h2 : left - (ns.length : Int) < 0 := by omega
    go_enter Tryz.func128, Tryz.ntmps128
    go_wp2
    go_ret
    exact ⟨_, rfl, .inl rfl, Below.refl _ _⟩
  · go_enter Tryz.func128, Tryz.ntmps128
    go_wp2
    go_loopw [1, 5] (fun rv iv wr => ∃ (r : Int) (k : Nat), rv = .int .i64 r ∧ iv = .int .i64 k ∧ k ≤ ns.length ∧ 0 ≤ r ∧ r + ns.length + totN (ns.take k) = left ∧ Below w.heap.size w wr) (fun _ iv _ => ns.length - (intOf iv).toNat)
    case atStart => exact ⟨_, 0, rfl, rfl, Nat.zero_le _, by omega, by simp [totN], Below.refl _ _⟩
    case round =>
      obtain ⟨r, k, rfl, rfl, hk, hr, ht, hb⟩ := hrel
      have HB : Hid (Below w.heap.size w wr) := hb
      have HRr : Hid (NRow wr (.slice a ns.length cap) ns) := HR.out.below hb
      clear hb
      by_cases hlt : k < ns.length
      · obtain ⟨b, off, kv, rfl, n0, n1, n2, n3, hI⟩ := HRr.out.at hlt
        obtain ⟨ak, ck, rfl⟩ := hI.slice
        have hnx := totN_next ns k hlt
        have hx := HZ.out _ (List.getElem_mem hlt)
        have HS : Hid (∀ W, _) := fun W => szExNode_any ns[k].op ns[k].num ns[k].name ak ns[k].kids.length ck r W hr (by omega) hx.2.2.1 hx.2.2.2.1
        clear hx hI
        go_wp2_with fail
        refine (HS.out _).mono ?_
        rintro e w1 ⟨r1, rfl, hr1, hb1⟩
        have HB1 : Hid (Below w.heap.size w w1) := HB.out.trans (hb1.mono HB.out.size)
        clear hb1
        rcases hr1 with rfl | ⟨hr1, hr2⟩
        · go_wp2
          go_ret
          exact ⟨_, rfl, .inl rfl, HB1.out⟩
        · have hr3 : ¬ r1 < 0 := by omega
          go_wp2
          go_roundw
          case rel => exact ⟨r1, k + 1, rfl, by go_num, by omega, hr1, by omega, HB1.out⟩
          case measure => simp [intOf]; omega
      · obtain rfl : k = ns.length := by omega
        rw [List.take_of_length_le (Nat.le_refl _)] at ht
        go_wp2
        go_ret
        exact ⟨_, rfl, .inr ⟨hr, ht⟩, HB.out⟩

theorem szExpr_any (v : Value) (ns : List NodeD) (left : Int) (w : World) (h0 : 0 ≤ left) (h1 : left ≤ 1048576) (h : NArg w v ns) :
    Calls Tryz.prog 118 #[.agg #[v], .int .i64 left] w fun e w' => ∃ r : Int, e = .returned (.int .i64 r) ∧ (r = -1 ∨ (0 ≤ r ∧ r + ns.length + totN ns = left)) ∧ Below w.heap.size w w' := by
  have BW : Hid (Below w.heap.size w (w.alloc (.cells #[v] 162))) := (Below.refl _ _).alloc (Nat.le_refl _) _
  have HZ : Hid (_) := szExNodeS_any v ns left (w.alloc (.cells #[v] 162)) h0 h1 ⟨h.1.below BW.out, h.2⟩
  obtain ⟨a, cap, rfl⟩ := h.1.slice
  clear h
  go_enter Tryz.func118, Tryz.ntmps118
  go_wp2_with fail
  refine Calls.mono HZ.out ?_
  rintro e w1 ⟨r, rfl, hr, hb1⟩
  have B1 : Hid (Below w.heap.size w w1) := BW.out.trans (hb1.mono BW.out.size)
  clear hb1 HZ
  rcases hr with rfl | ⟨hr0, hr1⟩
  · go_wp2
    go_ret
    exact ⟨_, rfl, .inl rfl, B1.out⟩
  · have hr2 : ¬ r < 0 := by omega
    go_wp2
    go_ret
    exact ⟨_, rfl, .inr ⟨hr0, hr1⟩, B1.out⟩

/-- Numbers that the call owns. -/
def zv (ks : List Int) : List Value := ks.map (.int .i64 ·)
theorem zv_len (ks : List Int) : (zv ks).length = ks.length := by simp [zv]
def OwnZ (B : Nat) (v : Value) (ks : List Int) (w : World) : Prop := w.ownsRow B 3 1 v ks.length (zv ks)
theorem OwnZ.row {B : Nat} {v : Value} {ks : List Int} {w : World} (h : OwnZ B v ks w) : IRow w v ks := by
  rcases h.2 with ⟨rfl, hz⟩ | ⟨g, cap, cur, rfl, hB, hc, hle, hm, hs, ht⟩
  · exact ⟨none, 0, by rw [hz], fun _ => rfl, fun h0 => by omega⟩
  · refine ⟨some ⟨g, 0, none⟩, cap, rfl, fun h => (by cases h), fun _ => ⟨g, 0, rfl, (Array.getElem?_eq_some_iff.1 hc).1, fun i hi => ?_⟩⟩
    have := World.ownsRow.cells h (g := g) rfl i (.int .i64 ks[i]) (by simp [zv, hi])
    rwa [Addr.add_lit] at this
theorem OwnZ.below {B : Nat} {v : Value} {ks : List Int} {w w' : World} (h : OwnZ B v ks w) (hb : Below w.heap.size w w') : OwnZ B v ks w' := own_below h hb
theorem OwnZ.base {B B' : Nat} {v : Value} {ks : List Int} {w : World} (h : OwnZ B v ks w) (hB : B' ≤ B) : OwnZ B' v ks w := by
  refine ⟨h.1, ?_⟩
  rcases h.2 with h | ⟨g, cap, cur, e, hg, r⟩
  · exact .inl h
  · exact .inr ⟨g, cap, cur, e, Nat.le_trans hB hg, r⟩
theorem Tryz.infoInt5 : (Tryz.prog.info? 3).map (fun i => (i.zero, i.size, i.bytes)) = some (some (.int .i64 0), 1, 8) := by kernel_rfl

theorem take_z (cs : List Value) (j : Nat) (a : Value) (h : j < cs.length) : (cs.set j a).take (j + 1) = cs.take j ++ [a] := by
  rw [List.take_succ_eq_append_getElem (by simpa using h), List.take_set_of_le (Nat.le_refl _)]
  simp

set_option maxHeartbeats 800000 in
theorem toIntS_any (v : Value) (ks : List Int) (w : World) (hm : ks.length ≤ 1048576) (h : IRow w v ks) :
    Calls Tryz.prog 161 #[v] w fun e w' => ∃ o, e = .returned o ∧ OwnZ w.heap.size o ks w' ∧ Below w.heap.size w w' := by
  obtain ⟨i0, hi, hz0, hz1, hz2⟩ := info_parts Tryz.infoInt5
  have HR : Hid (IRow w v ks) := h
  obtain ⟨a, cap, rfl⟩ := h.slice
  clear h
  go_enter Tryz.func161, Tryz.ntmps161
  go_wp2_with (at_make; refine wpList_make_full _ rfl _ _ 69 rfl w.heap.size 3 i0 _ 1 Tryz.underlying69 hi hz0 hz1 .i64 .i64 _ _ ks.length rfl rfl rfl rfl (by rw [hz2]; omega) (by unfold maxLen; omega) (Nat.le_refl _) ?_; intro w1 hown hg1)
  have HO : Hid (_) := hown
  have HB1 : Hid (Below w.heap.size w w1) := (Below.refl _ _).grown hg1 (Nat.le_refl _) (fun k h => by cases h)
  clear hown hg1
  go_loopw [4] (fun iv wr => ∃ (k : Nat) (cs : List Value), iv = .int .i64 k ∧ k ≤ ks.length ∧ wr.ownsRow w.heap.size 3 1 (.slice (some ⟨w.heap.size, 0, none⟩) ks.length ks.length) ks.length cs ∧ cs.take k = zv (ks.take k) ∧ Below w.heap.size w wr) (fun iv _ => ks.length - (intOf iv).toNat)
  case atStart => exact ⟨0, _, rfl, Nat.zero_le _, HO.out, rfl, HB1.out⟩
  case round =>
    obtain ⟨k, cs, rfl, hk, hown, hcs, hb⟩ := hrel
    have HW : Hid (wr.ownsRow w.heap.size 3 1 (.slice (some ⟨w.heap.size, 0, none⟩) ks.length ks.length) ks.length cs) := hown
    have HS : Hid (cs.take k = zv (ks.take k)) := hcs
    have HB : Hid (Below w.heap.size w wr) := hb
    have HRr : Hid (IRow wr (.slice a ks.length cap) ks) := HR.out.below hb
    clear hb hcs hown HO
    by_cases hlt : k < ks.length
    · obtain ⟨b, off, rfl, hc1⟩ := HRr.out.at hlt
      obtain ⟨c0, hc0, f0⟩ := own_cell HW.out k (by omega)
      go_wp2
      go_roundw
      case rel =>
        have s1 := World.ownsRow.stored HW.out k (.int .i64 ks[k])
        have hl : k < cs.length := by rw [HW.out.1]; omega
        refine ⟨k + 1, _, by go_num, by omega, s1.1, ?_, HB.out.setCell (Nat.le_refl _) _⟩
        rw [take_z cs k _ hl, HS.out, List.take_succ_eq_append_getElem hlt]
        simp only [zv, List.map_append, List.map_cons, List.map_nil]
      case measure => simp [intOf]; omega
    · obtain rfl : k = ks.length := by omega
      have HF : Hid (OwnZ w.heap.size (.slice (some ⟨w.heap.size, 0, none⟩) ks.length ks.length) ks wr) := by
        have h1 := HS.out
        rw [List.take_of_length_le (by rw [HW.out.1]; omega), List.take_of_length_le (Nat.le_refl _)] at h1
        have h2 := HW.out
        rw [h1] at h2
        exact h2
      clear HW HS
      go_wp2
      go_ret
      exact ⟨_, rfl, HF.out, HB.out⟩

end Go.Proofs.YtcnkegkffmcdmaaGreatDoor

namespace Go.Proofs.YtcnkegkffmcdmaaGreatDoor
open Go.RowKit

theorem gszStringS (v : Value) (xs : List ByteArray) (left : Int) (w : World) (h0 : 0 ≤ left) (h1 : left ≤ 1048576) (hin : RowInn StrIn xs) (h : SRow w v xs) :
    Calls Tryz.prog 40 #[v, .int .i64 left] w fun e w' => ∃ r : Int, e = .returned (.int .i64 r) ∧ (r = -1 ∨ (0 ≤ r ∧ r + (rowTot ByteArray.size xs : Nat) = left)) ∧ Below w.heap.size w w' := by
  refine (szStringS_any v xs left w h0 h1 hin.1 hin.2 h).mono ?_
  rintro e w' ⟨r, rfl, hr, rfl⟩
  refine ⟨r, rfl, hr.imp id (fun h => ⟨h.1, ?_⟩), Below.refl _ _⟩
  have := h.2
  have e : rowTot ByteArray.size xs = xs.length + totB xs := rfl
  omega
theorem gszExpr (v : Value) (x : List NodeD) (left : Int) (w : World) (h0 : 0 ≤ left) (h1 : left ≤ 1048576) (hin : ExprIn x) (h : NRow w v x) :
    Calls Tryz.prog 118 #[.agg #[v], .int .i64 left] w fun e w' => ∃ r : Int, e = .returned (.int .i64 r) ∧ (r = -1 ∨ (0 ≤ r ∧ r + (exprTot x : Nat) = left)) ∧ Below w.heap.size w w' := by
  refine (szExpr_any v x left w h0 h1 ⟨h, hin.1, hin.2⟩).mono ?_
  rintro e w' ⟨r, rfl, hr, hb⟩
  refine ⟨r, rfl, hr.imp id (fun h => ⟨h.1, ?_⟩), hb⟩
  have := h.2
  have e : exprTot x = x.length + totN x := rfl
  omega

set_option maxHeartbeats 1600000 in
theorem gszExprS (v : Value) (xs : List (List NodeD)) (left : Int) (w : World) (h0 : 0 ≤ left) (h1 : left ≤ 1048576) (hin : RowInn ExprIn xs) (h : RowC 1 ExprE w v xs) :
    Calls Tryz.prog 106 #[v, .int .i64 left] w fun e w' => ∃ r : Int, e = .returned (.int .i64 r) ∧ (r = -1 ∨ (0 ≤ r ∧ r + (rowTot exprTot xs : Nat) = left)) ∧ Below w.heap.size w w' := by
  have HR : Hid (RowC 1 ExprE w v xs) := h
  have HIn : Hid (∀ x ∈ xs, ExprIn x) := hin.2
  have hm := hin.1
  obtain ⟨a, cap, rfl⟩ := h.slice
  clear h hin
  unfold maxLen at hm
  by_cases hl : left < xs.length
  · have h2 : left - (xs.length : Int) < 0 := by omega
    go_enter Tryz.func106, Tryz.ntmps106
    go_wp2
    go_ret
    exact ⟨_, rfl, .inl rfl, Below.refl _ _⟩
  · go_enter Tryz.func106, Tryz.ntmps106
    go_wp2
    go_loopw [1, 5] (fun rv iv wr => ∃ (r : Int) (k : Nat), rv = .int .i64 r ∧ iv = .int .i64 k ∧ k ≤ xs.length ∧ 0 ≤ r ∧ r + xs.length + (((xs.take k).map exprTot).sum : Nat) = left ∧ Below w.heap.size w wr) (fun _ iv _ => xs.length - (intOf iv).toNat)
    case atStart => exact ⟨_, 0, rfl, rfl, Nat.zero_le _, by omega, by simp, Below.refl _ _⟩
    case round =>
      obtain ⟨rr, k, rfl, rfl, hk, hr, ht, hb⟩ := hrel
      have HB : Hid (Below w.heap.size w wr) := hb
      have HRr : Hid (RowC 1 ExprE wr (.slice a xs.length cap) xs) := RowC.below ExprE_stable HR.out hb
      clear hb
      by_cases hlt : k < xs.length
      · obtain ⟨b, off, vs, rfl, _, hc, hE⟩ := HRr.out.at hlt
        obtain ⟨r0, rfl, hh0⟩ := hE
        have n0 : wr.cell? ⟨b, off + k, none⟩ = some (r0) := by have h := hc 0 (by simp); rw [Nat.mul_one] at h; exact h
        have hnx := rowTot_next exprTot xs k hlt
        have HS : Hid (∀ W, Below wr.heap.size wr W → _) := fun W hW => gszExpr r0 xs[k] rr W hr (by omega) (HIn.out _ (List.getElem_mem hlt)) (hh0.below hW)
        obtain ⟨aa0, ca0, rfl⟩ := hh0.slice
        clear hc hh0
        go_wp2_with fail
        refine (HS.out _ (Below.refl _ _)).mono ?_
        rintro e w1 ⟨r1, rfl, hr1, hb1⟩
        have HB1 : Hid (Below w.heap.size w w1) := HB.out.trans (hb1.mono HB.out.size)
        clear hb1
        rcases hr1 with rfl | ⟨hr1, hr2⟩
        · go_wp2
          go_ret
          exact ⟨_, rfl, .inl rfl, HB1.out⟩
        · have hr3 : ¬ r1 < 0 := by omega
          go_wp2
          go_roundw
          case rel => exact ⟨r1, k + 1, rfl, by go_num, by omega, hr1, by omega, HB1.out⟩
          case measure => simp [intOf]; omega
      · obtain rfl : k = xs.length := by omega
        rw [List.take_of_length_le (Nat.le_refl _)] at ht
        have HE : Hid (rr + (rowTot exprTot xs : Nat) = left) := by rw [Hid, rowTot]; omega
        go_wp2
        go_ret
        exact ⟨_, rfl, .inr ⟨hr, HE.out⟩, HB.out⟩

set_option maxHeartbeats 1600000 in
theorem gszSym (r0 : Value) (x : SymD) (left : Int) (w : World) (h0 : 0 ≤ left) (h1 : left ≤ 1048576) (hin : SymIn x) (hh0 : RowC 1 ExprE w r0 x.args) :
    Calls Tryz.prog 95 #[.agg #[.int .i64 x.kind, .string x.text, r0, .string x.bind], .int .i64 left] w fun e w' => ∃ r : Int, e = .returned (.int .i64 r) ∧ (r = -1 ∨ (0 ≤ r ∧ r + (symTot x : Nat) = left)) ∧ Below w.heap.size w w' := by
  have BW : Hid (Below w.heap.size w (w.alloc (.cells #[.int .i64 x.kind, .string x.text, r0, .string x.bind] 135))) := (Below.refl _ _).alloc (Nat.le_refl _) _
  have HTt : Hid (symTot x = x.text.size + rowTot exprTot x.args + x.bind.size) := rfl
  obtain ⟨iKind, iText, iArgs, iBind⟩ := hin
  have sText : x.text.size ≤ 9223372036854775807 := by have := iText; unfold StrIn maxLen at this; omega
  have sBind : x.bind.size ≤ 9223372036854775807 := by have := iBind; unfold StrIn maxLen at this; omega
  have R0 : Hid (RowC 1 ExprE w r0 x.args) := hh0
  obtain ⟨aa0, ca0, rfl⟩ := hh0.slice
  clear hh0
  by_cases z1 : left < x.text.size
  · have q1 : left - (x.text.size : Int) < 0 := by omega
    go_enter Tryz.func95, Tryz.ntmps95
    go_wp2
    go_ret
    exact ⟨_, rfl, .inl rfl, BW.out⟩
  · have q1 : ¬ left - (x.text.size : Int) < 0 := by omega
    go_enter Tryz.func95, Tryz.ntmps95
    go_wp2_with fail
    refine (gszExprS _ x.args (left - (x.text.size : Int)) _ (by omega) (by omega) iArgs (RowC.below ExprE_stable R0.out BW.out)).mono ?_
    rintro e w0 ⟨l0, rfl, hl0, hb0⟩
    have B0 : Hid (Below w.heap.size w w0) := BW.out.trans (hb0.mono BW.out.size)
    have K0_3 : w0.cell? ⟨w.heap.size, 3, none⟩ = some (.string x.bind) := cell_keep (box_at w #[.int .i64 x.kind, .string x.text, .slice aa0 x.args.length ca0, .string x.bind] 135 3 _ rfl) hb0
    clear hb0
    rcases hl0 with rfl | ⟨p0, q0'⟩
    · go_wp2
      go_ret
      exact ⟨_, rfl, .inl rfl, B0.out⟩
    · have t0 : ¬ l0 < 0 := by omega
      by_cases z3 : l0 < x.bind.size
      · have q3 : l0 - (x.bind.size : Int) < 0 := by omega
        go_wp2
        go_ret
        exact ⟨_, rfl, .inl rfl, B0.out⟩
      · have q3 : ¬ l0 - (x.bind.size : Int) < 0 := by omega
        go_wp2
        go_ret
        exact ⟨_, rfl, .inr ⟨by omega, by have := HTt.out; omega⟩, B0.out⟩

set_option maxHeartbeats 1600000 in
theorem gszSymS (v : Value) (xs : List (SymD)) (left : Int) (w : World) (h0 : 0 ≤ left) (h1 : left ≤ 1048576) (hin : RowInn SymIn xs) (h : RowC 4 SymE w v xs) :
    Calls Tryz.prog 78 #[v, .int .i64 left] w fun e w' => ∃ r : Int, e = .returned (.int .i64 r) ∧ (r = -1 ∨ (0 ≤ r ∧ r + (rowTot symTot xs : Nat) = left)) ∧ Below w.heap.size w w' := by
  have HR : Hid (RowC 4 SymE w v xs) := h
  have HIn : Hid (∀ x ∈ xs, SymIn x) := hin.2
  have hm := hin.1
  obtain ⟨a, cap, rfl⟩ := h.slice
  clear h hin
  unfold maxLen at hm
  by_cases hl : left < xs.length
  · have h2 : left - (xs.length : Int) < 0 := by omega
    go_enter Tryz.func78, Tryz.ntmps78
    go_wp2
    go_ret
    exact ⟨_, rfl, .inl rfl, Below.refl _ _⟩
  · go_enter Tryz.func78, Tryz.ntmps78
    go_wp2
    go_loopw [1, 5] (fun rv iv wr => ∃ (r : Int) (k : Nat), rv = .int .i64 r ∧ iv = .int .i64 k ∧ k ≤ xs.length ∧ 0 ≤ r ∧ r + xs.length + (((xs.take k).map symTot).sum : Nat) = left ∧ Below w.heap.size w wr) (fun _ iv _ => xs.length - (intOf iv).toNat)
    case atStart => exact ⟨_, 0, rfl, rfl, Nat.zero_le _, by omega, by simp, Below.refl _ _⟩
    case round =>
      obtain ⟨rr, k, rfl, rfl, hk, hr, ht, hb⟩ := hrel
      have HB : Hid (Below w.heap.size w wr) := hb
      have HRr : Hid (RowC 4 SymE wr (.slice a xs.length cap) xs) := RowC.below SymE_stable HR.out hb
      clear hb
      by_cases hlt : k < xs.length
      · obtain ⟨b, off, vs, rfl, _, hc, hE⟩ := HRr.out.at hlt
        obtain ⟨r0, rfl, hh0⟩ := hE
        have n0 : wr.cell? ⟨b, off + k * 4, none⟩ = some (.int .i64 xs[k].kind) := hc 0 (by simp)
        have n1 : wr.cell? ⟨b, off + k * 4 + 1, none⟩ = some (.string xs[k].text) := hc 1 (by simp)
        have n2 : wr.cell? ⟨b, off + k * 4 + 2, none⟩ = some (r0) := hc 2 (by simp)
        have n3 : wr.cell? ⟨b, off + k * 4 + 3, none⟩ = some (.string xs[k].bind) := hc 3 (by simp)
        have hnx := rowTot_next symTot xs k hlt
        have HS : Hid (∀ W, Below wr.heap.size wr W → _) := fun W hW => gszSym r0 xs[k] rr W hr (by omega) (HIn.out _ (List.getElem_mem hlt)) (RowC.below ExprE_stable hh0 hW)
        obtain ⟨aa0, ca0, rfl⟩ := hh0.slice
        clear hc hh0
        go_wp2_with fail
        refine (HS.out _ (Below.refl _ _)).mono ?_
        rintro e w1 ⟨r1, rfl, hr1, hb1⟩
        have HB1 : Hid (Below w.heap.size w w1) := HB.out.trans (hb1.mono HB.out.size)
        clear hb1
        rcases hr1 with rfl | ⟨hr1, hr2⟩
        · go_wp2
          go_ret
          exact ⟨_, rfl, .inl rfl, HB1.out⟩
        · have hr3 : ¬ r1 < 0 := by omega
          go_wp2
          go_roundw
          case rel => exact ⟨r1, k + 1, rfl, by go_num, by omega, hr1, by omega, HB1.out⟩
          case measure => simp [intOf]; omega
      · obtain rfl : k = xs.length := by omega
        rw [List.take_of_length_le (Nat.le_refl _)] at ht
        have HE : Hid (rr + (rowTot symTot xs : Nat) = left) := by rw [Hid, rowTot]; omega
        go_wp2
        go_ret
        exact ⟨_, rfl, .inr ⟨hr, HE.out⟩, HB.out⟩

set_option maxHeartbeats 1600000 in
theorem gszAlt (r0 : Value) (x : List SymD) (left : Int) (w : World) (h0 : 0 ≤ left) (h1 : left ≤ 1048576) (hin : AltIn x) (hh0 : RowC 4 SymE w r0 x) :
    Calls Tryz.prog 61 #[.agg #[r0], .int .i64 left] w fun e w' => ∃ r : Int, e = .returned (.int .i64 r) ∧ (r = -1 ∨ (0 ≤ r ∧ r + (altTot x : Nat) = left)) ∧ Below w.heap.size w w' := by
  have BW : Hid (Below w.heap.size w (w.alloc (.cells #[r0] 107))) := (Below.refl _ _).alloc (Nat.le_refl _) _
  have HTt : Hid (altTot x = rowTot symTot x) := rfl
  have iSyms := hin
  have R0 : Hid (RowC 4 SymE w r0 x) := hh0
  obtain ⟨aa0, ca0, rfl⟩ := hh0.slice
  clear hh0
  go_enter Tryz.func61, Tryz.ntmps61
  go_wp2_with fail
  refine (gszSymS _ x left _ (by omega) (by omega) iSyms (RowC.below SymE_stable R0.out BW.out)).mono ?_
  rintro e w0 ⟨l0, rfl, hl0, hb0⟩
  have B0 : Hid (Below w.heap.size w w0) := BW.out.trans (hb0.mono BW.out.size)
  clear hb0
  rcases hl0 with rfl | ⟨p0, q0'⟩
  · go_wp2
    go_ret
    exact ⟨_, rfl, .inl rfl, B0.out⟩
  · have t0 : ¬ l0 < 0 := by omega
    go_wp2
    go_ret
    exact ⟨_, rfl, .inr ⟨by omega, by have := HTt.out; omega⟩, B0.out⟩

set_option maxHeartbeats 1600000 in
theorem gszAltS (v : Value) (xs : List (List SymD)) (left : Int) (w : World) (h0 : 0 ≤ left) (h1 : left ≤ 1048576) (hin : RowInn AltIn xs) (h : RowC 1 AltE w v xs) :
    Calls Tryz.prog 41 #[v, .int .i64 left] w fun e w' => ∃ r : Int, e = .returned (.int .i64 r) ∧ (r = -1 ∨ (0 ≤ r ∧ r + (rowTot altTot xs : Nat) = left)) ∧ Below w.heap.size w w' := by
  have HR : Hid (RowC 1 AltE w v xs) := h
  have HIn : Hid (∀ x ∈ xs, AltIn x) := hin.2
  have hm := hin.1
  obtain ⟨a, cap, rfl⟩ := h.slice
  clear h hin
  unfold maxLen at hm
  by_cases hl : left < xs.length
  · have h2 : left - (xs.length : Int) < 0 := by omega
    go_enter Tryz.func41, Tryz.ntmps41
    go_wp2
    go_ret
    exact ⟨_, rfl, .inl rfl, Below.refl _ _⟩
  · go_enter Tryz.func41, Tryz.ntmps41
    go_wp2
    go_loopw [1, 5] (fun rv iv wr => ∃ (r : Int) (k : Nat), rv = .int .i64 r ∧ iv = .int .i64 k ∧ k ≤ xs.length ∧ 0 ≤ r ∧ r + xs.length + (((xs.take k).map altTot).sum : Nat) = left ∧ Below w.heap.size w wr) (fun _ iv _ => xs.length - (intOf iv).toNat)
    case atStart => exact ⟨_, 0, rfl, rfl, Nat.zero_le _, by omega, by simp, Below.refl _ _⟩
    case round =>
      obtain ⟨rr, k, rfl, rfl, hk, hr, ht, hb⟩ := hrel
      have HB : Hid (Below w.heap.size w wr) := hb
      have HRr : Hid (RowC 1 AltE wr (.slice a xs.length cap) xs) := RowC.below AltE_stable HR.out hb
      clear hb
      by_cases hlt : k < xs.length
      · obtain ⟨b, off, vs, rfl, _, hc, hE⟩ := HRr.out.at hlt
        obtain ⟨r0, rfl, hh0⟩ := hE
        have n0 : wr.cell? ⟨b, off + k, none⟩ = some (r0) := by have h := hc 0 (by simp); rw [Nat.mul_one] at h; exact h
        have hnx := rowTot_next altTot xs k hlt
        have HS : Hid (∀ W, Below wr.heap.size wr W → _) := fun W hW => gszAlt r0 xs[k] rr W hr (by omega) (HIn.out _ (List.getElem_mem hlt)) (RowC.below SymE_stable hh0 hW)
        obtain ⟨aa0, ca0, rfl⟩ := hh0.slice
        clear hc hh0
        go_wp2_with fail
        refine (HS.out _ (Below.refl _ _)).mono ?_
        rintro e w1 ⟨r1, rfl, hr1, hb1⟩
        have HB1 : Hid (Below w.heap.size w w1) := HB.out.trans (hb1.mono HB.out.size)
        clear hb1
        rcases hr1 with rfl | ⟨hr1, hr2⟩
        · go_wp2
          go_ret
          exact ⟨_, rfl, .inl rfl, HB1.out⟩
        · have hr3 : ¬ r1 < 0 := by omega
          go_wp2
          go_roundw
          case rel => exact ⟨r1, k + 1, rfl, by go_num, by omega, hr1, by omega, HB1.out⟩
          case measure => simp [intOf]; omega
      · obtain rfl : k = xs.length := by omega
        rw [List.take_of_length_le (Nat.le_refl _)] at ht
        have HE : Hid (rr + (rowTot altTot xs : Nat) = left) := by rw [Hid, rowTot]; omega
        go_wp2
        go_ret
        exact ⟨_, rfl, .inr ⟨hr, HE.out⟩, HB.out⟩

set_option maxHeartbeats 1600000 in
theorem gszRule (r0 r1 : Value) (x : RuleD) (left : Int) (w : World) (h0 : 0 ≤ left) (h1 : left ≤ 1048576) (hin : RuleIn x) (hh0 : SRow w r0 x.params) (hh1 : RowC 1 AltE w r1 x.alts) :
    Calls Tryz.prog 21 #[.agg #[.string x.name, r0, r1], .int .i64 left] w fun e w' => ∃ r : Int, e = .returned (.int .i64 r) ∧ (r = -1 ∨ (0 ≤ r ∧ r + (ruleTot x : Nat) = left)) ∧ Below w.heap.size w w' := by
  have BW : Hid (Below w.heap.size w (w.alloc (.cells #[.string x.name, r0, r1] 64))) := (Below.refl _ _).alloc (Nat.le_refl _) _
  have HTt : Hid (ruleTot x = x.name.size + rowTot ByteArray.size x.params + rowTot altTot x.alts) := rfl
  obtain ⟨iName, iParams, iAlts⟩ := hin
  have sName : x.name.size ≤ 9223372036854775807 := by have := iName; unfold StrIn maxLen at this; omega
  have R0 : Hid (SRow w r0 x.params) := hh0
  obtain ⟨aa0, ca0, rfl⟩ := hh0.slice
  have R1 : Hid (RowC 1 AltE w r1 x.alts) := hh1
  obtain ⟨aa1, ca1, rfl⟩ := hh1.slice
  clear hh0 hh1
  by_cases z0 : left < x.name.size
  · have q0 : left - (x.name.size : Int) < 0 := by omega
    go_enter Tryz.func21, Tryz.ntmps21
    go_wp2
    go_ret
    exact ⟨_, rfl, .inl rfl, BW.out⟩
  · have q0 : ¬ left - (x.name.size : Int) < 0 := by omega
    go_enter Tryz.func21, Tryz.ntmps21
    go_wp2_with fail
    refine (gszStringS _ x.params (left - (x.name.size : Int)) _ (by omega) (by omega) iParams (R0.out.below BW.out)).mono ?_
    rintro e w0 ⟨l0, rfl, hl0, hb0⟩
    have B0 : Hid (Below w.heap.size w w0) := BW.out.trans (hb0.mono BW.out.size)
    have K0_2 : w0.cell? ⟨w.heap.size, 2, none⟩ = some (.slice aa1 x.alts.length ca1) := cell_keep (box_at w #[.string x.name, .slice aa0 x.params.length ca0, .slice aa1 x.alts.length ca1] 64 2 _ rfl) hb0
    clear hb0
    rcases hl0 with rfl | ⟨p0, q0'⟩
    · go_wp2
      go_ret
      exact ⟨_, rfl, .inl rfl, B0.out⟩
    · have t0 : ¬ l0 < 0 := by omega
      go_wp2_with fail
      refine (gszAltS _ x.alts l0 _ (by omega) (by omega) iAlts (RowC.below AltE_stable R1.out B0.out)).mono ?_
      rintro e w1 ⟨l1, rfl, hl1, hb1⟩
      have B1 : Hid (Below w.heap.size w w1) := B0.out.trans (hb1.mono B0.out.size)
      clear hb1
      rcases hl1 with rfl | ⟨p1, q1'⟩
      · go_wp2
        go_ret
        exact ⟨_, rfl, .inl rfl, B1.out⟩
      · have t1 : ¬ l1 < 0 := by omega
        go_wp2
        go_ret
        exact ⟨_, rfl, .inr ⟨by omega, by have := HTt.out; omega⟩, B1.out⟩

set_option maxHeartbeats 1600000 in
theorem gszRuleS (v : Value) (xs : List (RuleD)) (left : Int) (w : World) (h0 : 0 ≤ left) (h1 : left ≤ 1048576) (hin : RowInn RuleIn xs) (h : RowC 3 RuleE w v xs) :
    Calls Tryz.prog 9 #[v, .int .i64 left] w fun e w' => ∃ r : Int, e = .returned (.int .i64 r) ∧ (r = -1 ∨ (0 ≤ r ∧ r + (rowTot ruleTot xs : Nat) = left)) ∧ Below w.heap.size w w' := by
  have HR : Hid (RowC 3 RuleE w v xs) := h
  have HIn : Hid (∀ x ∈ xs, RuleIn x) := hin.2
  have hm := hin.1
  obtain ⟨a, cap, rfl⟩ := h.slice
  clear h hin
  unfold maxLen at hm
  by_cases hl : left < xs.length
  · have h2 : left - (xs.length : Int) < 0 := by omega
    go_enter Tryz.func9, Tryz.ntmps9
    go_wp2
    go_ret
    exact ⟨_, rfl, .inl rfl, Below.refl _ _⟩
  · go_enter Tryz.func9, Tryz.ntmps9
    go_wp2
    go_loopw [1, 5] (fun rv iv wr => ∃ (r : Int) (k : Nat), rv = .int .i64 r ∧ iv = .int .i64 k ∧ k ≤ xs.length ∧ 0 ≤ r ∧ r + xs.length + (((xs.take k).map ruleTot).sum : Nat) = left ∧ Below w.heap.size w wr) (fun _ iv _ => xs.length - (intOf iv).toNat)
    case atStart => exact ⟨_, 0, rfl, rfl, Nat.zero_le _, by omega, by simp, Below.refl _ _⟩
    case round =>
      obtain ⟨rr, k, rfl, rfl, hk, hr, ht, hb⟩ := hrel
      have HB : Hid (Below w.heap.size w wr) := hb
      have HRr : Hid (RowC 3 RuleE wr (.slice a xs.length cap) xs) := RowC.below RuleE_stable HR.out hb
      clear hb
      by_cases hlt : k < xs.length
      · obtain ⟨b, off, vs, rfl, _, hc, hE⟩ := HRr.out.at hlt
        obtain ⟨r0, r1, rfl, hh0, hh1⟩ := hE
        have n0 : wr.cell? ⟨b, off + k * 3, none⟩ = some (.string xs[k].name) := hc 0 (by simp)
        have n1 : wr.cell? ⟨b, off + k * 3 + 1, none⟩ = some (r0) := hc 1 (by simp)
        have n2 : wr.cell? ⟨b, off + k * 3 + 2, none⟩ = some (r1) := hc 2 (by simp)
        have hnx := rowTot_next ruleTot xs k hlt
        have HS : Hid (∀ W, Below wr.heap.size wr W → _) := fun W hW => gszRule r0 r1 xs[k] rr W hr (by omega) (HIn.out _ (List.getElem_mem hlt)) (hh0.below hW) (RowC.below AltE_stable hh1 hW)
        obtain ⟨aa0, ca0, rfl⟩ := hh0.slice
        obtain ⟨aa1, ca1, rfl⟩ := hh1.slice
        clear hc hh0 hh1
        go_wp2_with fail
        refine (HS.out _ (Below.refl _ _)).mono ?_
        rintro e w1 ⟨r1, rfl, hr1, hb1⟩
        have HB1 : Hid (Below w.heap.size w w1) := HB.out.trans (hb1.mono HB.out.size)
        clear hb1
        rcases hr1 with rfl | ⟨hr1, hr2⟩
        · go_wp2
          go_ret
          exact ⟨_, rfl, .inl rfl, HB1.out⟩
        · have hr3 : ¬ r1 < 0 := by omega
          go_wp2
          go_roundw
          case rel => exact ⟨r1, k + 1, rfl, by go_num, by omega, hr1, by omega, HB1.out⟩
          case measure => simp [intOf]; omega
      · obtain rfl : k = xs.length := by omega
        rw [List.take_of_length_le (Nat.le_refl _)] at ht
        have HE : Hid (rr + (rowTot ruleTot xs : Nat) = left) := by rw [Hid, rowTot]; omega
        go_wp2
        go_ret
        exact ⟨_, rfl, .inr ⟨hr, HE.out⟩, HB.out⟩

set_option maxHeartbeats 1600000 in
theorem gszGrammar (r0 : Value) (x : List RuleD) (left : Int) (w : World) (h0 : 0 ≤ left) (h1 : left ≤ 1048576) (hin : GrammarIn x) (hh0 : RowC 3 RuleE w r0 x) :
    Calls Tryz.prog 4 #[.agg #[r0], .int .i64 left] w fun e w' => ∃ r : Int, e = .returned (.int .i64 r) ∧ (r = -1 ∨ (0 ≤ r ∧ r + (grammarTot x : Nat) = left)) ∧ Below w.heap.size w w' := by
  have BW : Hid (Below w.heap.size w (w.alloc (.cells #[r0] 24))) := (Below.refl _ _).alloc (Nat.le_refl _) _
  have HTt : Hid (grammarTot x = rowTot ruleTot x) := rfl
  have iRules := hin
  have R0 : Hid (RowC 3 RuleE w r0 x) := hh0
  obtain ⟨aa0, ca0, rfl⟩ := hh0.slice
  clear hh0
  go_enter Tryz.func4, Tryz.ntmps4
  go_wp2_with fail
  refine (gszRuleS _ x left _ (by omega) (by omega) iRules (RowC.below RuleE_stable R0.out BW.out)).mono ?_
  rintro e w0 ⟨l0, rfl, hl0, hb0⟩
  have B0 : Hid (Below w.heap.size w w0) := BW.out.trans (hb0.mono BW.out.size)
  clear hb0
  rcases hl0 with rfl | ⟨p0, q0'⟩
  · go_wp2
    go_ret
    exact ⟨_, rfl, .inl rfl, B0.out⟩
  · have t0 : ¬ l0 < 0 := by omega
    go_wp2
    go_ret
    exact ⟨_, rfl, .inr ⟨by omega, by have := HTt.out; omega⟩, B0.out⟩

end Go.Proofs.YtcnkegkffmcdmaaGreatDoor
