/- The laws' own helpers on expressions: how great they are, copied. -/
import Derived.Test.YtpcfcheicdnogaaXOk
import Derived.Handy
import Derived.OwnWalk
import Derived.Laws.OwnMore
namespace Go.Proofs.Ytpcfcheicdnogaa
open Go.RowKit

/-- How much the nodes hold. -/
def totN (ns : List NodeD) : Nat := (ns.map fun x => x.name.size + x.kids.length).sum
theorem totN_next (ns : List NodeD) (k : Nat) (h : k < ns.length) : totN (ns.take (k + 1)) = totN (ns.take k) + (ns[k].name.size + ns[k].kids.length) := by
  rw [List.take_succ_eq_append_getElem h]
  simp only [totN, List.map_append, List.sum_append, List.map_cons, List.map_nil, List.sum_cons, List.sum_nil, Nat.add_zero]
theorem totN_mem {ns : List NodeD} {x : NodeD} (h : x ∈ ns) : x.name.size + x.kids.length ≤ totN ns := by
  induction ns with
  | nil => cases h
  | cons y ns ih =>
    simp only [totN, List.map_cons, List.sum_cons]
    rcases List.mem_cons.1 h with rfl | h
    · omega
    · have := ih h; simp only [totN] at this; omega

theorem szIntS_any (a : Option Addr) (n cap : Nat) (left : Int) (w : World) (h0 : 0 ≤ left) (h1 : left ≤ 1048576) (hn : n ≤ maxLen) :
    Calls Try.prog 35 #[.slice a n cap, .int .i64 left] w fun e w' => ∃ r : Int, e = .returned (.int .i64 r) ∧ (r = -1 ∨ (0 ≤ r ∧ r + n = left)) ∧ w' = w := by
  unfold maxLen at hn
  by_cases h : left < n
  · have h2 : left - (n : Int) < 0 := by omega
    go_enter Try.func35, Try.ntmps35
    go_wp2
    go_ret
    exact ⟨_, rfl, .inl rfl, rfl⟩
  · go_enter Try.func35, Try.ntmps35
    go_wp2
    go_ret
    exact ⟨_, rfl, .inr ⟨by omega, by omega⟩, rfl⟩




/-- Numbers that the call owns. -/
def zv (ks : List Int) : List Value := ks.map (.int .i64 ·)
theorem zv_len (ks : List Int) : (zv ks).length = ks.length := by simp [zv]
def OwnZ (B : Nat) (v : Value) (ks : List Int) (w : World) : Prop := w.ownsRow B 3 1 v ks.length (zv ks)
theorem OwnZ.row {B : Nat} {v : Value} {ks : List Int} {w : World} (h : OwnZ B v ks w) : IRow w v ks := by
  rcases h.2 with ⟨rfl, hz⟩ | ⟨g, cap, cur, rfl, hB, hc, hle, hm, hs, ht⟩
  · exact ⟨none, 0, by rw [hz], fun _ => rfl, fun h0 => by omega⟩
  · refine ⟨some ⟨g, 0, none⟩, cap, rfl, fun h => (by cases h), fun _ => ⟨g, 0, rfl, (Array.getElem?_eq_some_iff.1 hc).1, fun i hi => ?_⟩⟩
    have := World.ownsRow.cells h (g := g) rfl i (.int .i64 ks[i]) (by simp [zv, hi])
    rwa [Addr.add_lit] at this
theorem OwnZ.below {B : Nat} {v : Value} {ks : List Int} {w w' : World} (h : OwnZ B v ks w) (hb : Below w.heap.size w w') : OwnZ B v ks w' := own_below h hb
theorem OwnZ.base {B B' : Nat} {v : Value} {ks : List Int} {w : World} (h : OwnZ B v ks w) (hB : B' ≤ B) : OwnZ B' v ks w := by
  refine ⟨h.1, ?_⟩
  rcases h.2 with h | ⟨g, cap, cur, e, hg, r⟩
  · exact .inl h
  · exact .inr ⟨g, cap, cur, e, Nat.le_trans hB hg, r⟩
theorem Try.infoInt5 : (Try.prog.info? 3).map (fun i => (i.zero, i.size, i.bytes)) = some (some (.int .i64 0), 1, 8) := by kernel_rfl

theorem take_z (cs : List Value) (j : Nat) (a : Value) (h : j < cs.length) : (cs.set j a).take (j + 1) = cs.take j ++ [a] := by
  rw [List.take_succ_eq_append_getElem (by simpa using h), List.take_set_of_le (Nat.le_refl _)]
  simp

set_option maxHeartbeats 800000 in
theorem toIntS_any (v : Value) (ks : List Int) (w : World) (hm : ks.length ≤ 1048576) (h : IRow w v ks) :
    Calls Try.prog 37 #[v] w fun e w' => ∃ o, e = .returned o ∧ OwnZ w.heap.size o ks w' ∧ Below w.heap.size w w' := by
  obtain ⟨i0, hi, hz0, hz1, hz2⟩ := info_parts Try.infoInt5
  have HR : Hid (IRow w v ks) := h
  obtain ⟨a, cap, rfl⟩ := h.slice
  clear h
  go_enter Try.func37, Try.ntmps37
  go_wp2_with (at_make; refine wpList_make_full _ rfl _ _ 36 rfl w.heap.size 3 i0 _ 1 Try.underlying36 hi hz0 hz1 .i64 .i64 _ _ ks.length rfl rfl rfl rfl (by rw [hz2]; omega) (by unfold maxLen; omega) (Nat.le_refl _) ?_; intro w1 hown hg1)
  have HO : Hid (_) := hown
  have HB1 : Hid (Below w.heap.size w w1) := (Below.refl _ _).grown hg1 (Nat.le_refl _) (fun k h => by cases h)
  clear hown hg1
  go_loopw [4] (fun iv wr => ∃ (k : Nat) (cs : List Value), iv = .int .i64 k ∧ k ≤ ks.length ∧ wr.ownsRow w.heap.size 3 1 (.slice (some ⟨w.heap.size, 0, none⟩) ks.length ks.length) ks.length cs ∧ cs.take k = zv (ks.take k) ∧ Below w.heap.size w wr) (fun iv _ => ks.length - (intOf iv).toNat)
  case atStart => exact ⟨0, _, rfl, Nat.zero_le _, HO.out, rfl, HB1.out⟩
  case round =>
    obtain ⟨k, cs, rfl, hk, hown, hcs, hb⟩ := hrel
    have HW : Hid (wr.ownsRow w.heap.size 3 1 (.slice (some ⟨w.heap.size, 0, none⟩) ks.length ks.length) ks.length cs) := hown
    have HS : Hid (cs.take k = zv (ks.take k)) := hcs
    have HB : Hid (Below w.heap.size w wr) := hb
    have HRr : Hid (IRow wr (.slice a ks.length cap) ks) := HR.out.below hb
    clear hb hcs hown HO
    by_cases hlt : k < ks.length
    · obtain ⟨b, off, rfl, hc1⟩ := HRr.out.at hlt
      obtain ⟨c0, hc0, f0⟩ := own_cell HW.out k (by omega)
      go_wp2
      go_roundw
      case rel =>
        have s1 := World.ownsRow.stored HW.out k (.int .i64 ks[k])
        have hl : k < cs.length := by rw [HW.out.1]; omega
        refine ⟨k + 1, _, by go_num, by omega, s1.1, ?_, HB.out.setCell (Nat.le_refl _) _⟩
        rw [take_z cs k _ hl, HS.out, List.take_succ_eq_append_getElem hlt]
        simp only [zv, List.map_append, List.map_cons, List.map_nil]
      case measure => simp [intOf]; omega
    · obtain rfl : k = ks.length := by omega
      have HF : Hid (OwnZ w.heap.size (.slice (some ⟨w.heap.size, 0, none⟩) ks.length ks.length) ks wr) := by
        have h1 := HS.out
        rw [List.take_of_length_le (by rw [HW.out.1]; omega), List.take_of_length_le (Nat.le_refl _)] at h1
        have h2 := HW.out
        rw [h1] at h2
        exact h2
      clear HW HS
      go_wp2
      go_ret
      exact ⟨_, rfl, HF.out, HB.out⟩

end Go.Proofs.Ytpcfcheicdnogaa
