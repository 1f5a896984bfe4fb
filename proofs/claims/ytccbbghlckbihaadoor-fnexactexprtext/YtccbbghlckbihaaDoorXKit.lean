/- The laws' own helpers on expressions: how great they are, copied. -/
import Derived.Test.YtccbbghlckbihaaDoorXOk
import Derived.Handy
import Derived.OwnWalk
import Derived.Laws.OwnMore
namespace Go.Proofs.YtccbbghlckbihaaDoor
open Go.RowKit

/-- How much the nodes hold. -/
def totN (ns : List NodeD) : Nat := (ns.map fun x => x.name.size + x.kids.length).sum
theorem totN_next (ns : List NodeD) (k : Nat) (h : k < ns.length) : totN (ns.take (k + 1)) = totN (ns.take k) + (ns[k].name.size + ns[k].kids.length) := by
  rw [List.take_succ_eq_append_getElem h]
  simp only [totN, List.map_append, List.sum_append, List.map_cons, List.map_nil, List.sum_cons, List.sum_nil, Nat.add_zero]
theorem totN_mem {ns : List NodeD} {x : NodeD} (h : x ∈ ns) : x.name.size + x.kids.length ≤ totN ns := by
  induction ns with
  | nil => cases h
  | cons y ns ih =>
    simp only [totN, List.map_cons, List.sum_cons]
    rcases List.mem_cons.1 h with rfl | h
    · omega
    · have := ih h; simp only [totN] at this; omega

theorem szIntS_any (a : Option Addr) (n cap : Nat) (left : Int) (w : World) (h0 : 0 ≤ left) (h1 : left ≤ 1048576) (hn : n ≤ maxLen) :
    Calls Tryd.prog 29 #[.slice a n cap, .int .i64 left] w fun e w' => ∃ r : Int, e = .returned (.int .i64 r) ∧ (r = -1 ∨ (0 ≤ r ∧ r + n = left)) ∧ w' = w := by
  unfold maxLen at hn
  by_cases h : left < n
  · have h2 : left - (n : Int) < 0 := by omega
    go_enter Tryd.func29, Tryd.ntmps29
    go_wp2
    go_ret
    exact ⟨_, rfl, .inl rfl, rfl⟩
  · go_enter Tryd.func29, Tryd.ntmps29
    go_wp2
    go_ret
    exact ⟨_, rfl, .inr ⟨by omega, by omega⟩, rfl⟩

theorem szExNode_any (op num : Int) (name : ByteArray) (a : Option Addr) (n cap : Nat) (left : Int) (w : World) (h0 : 0 ≤ left) (h1 : left ≤ 1048576) (hs : name.size ≤ maxLen) (hn : n ≤ maxLen) :
    Calls Tryd.prog 18 #[.agg #[.int .i64 op, .int .i64 num, .string name, .slice a n cap], .int .i64 left] w fun e w' => ∃ r : Int, e = .returned (.int .i64 r) ∧ (r = -1 ∨ (0 ≤ r ∧ r + (name.size + n : Nat) = left)) ∧ Below w.heap.size w w' := by
  have hs2 : name.size ≤ 9223372036854775807 := by unfold maxLen at hs; omega
  by_cases h : left < name.size
  · have h2 : left - (name.size : Int) < 0 := by omega
    go_enter Tryd.func18, Tryd.ntmps18
    go_wp2
    go_ret
    exact ⟨_, rfl, .inl rfl, (Below.refl _ _).alloc (Nat.le_refl _) _⟩
  · have h2 : ¬ left - (name.size : Int) < 0 := by omega
    have BW : Hid (Below w.heap.size w (w.alloc (.cells #[.int .i64 op, .int .i64 num, .string name, .slice a n cap] 50))) := (Below.refl _ _).alloc (Nat.le_refl _) _
    have HZ : Hid (∀ W, _) := fun W => szIntS_any a n cap (left - (name.size : Int)) W (by omega) (by omega) hn
    go_enter Tryd.func18, Tryd.ntmps18
    go_wp2_with fail
    refine (HZ.out _).mono ?_
    rintro e wq ⟨r, rfl, hr, hw⟩
    rw [hw]
    clear hw wq
    rcases hr with rfl | ⟨hr0, hr1⟩
    · go_wp2
      go_ret
      exact ⟨_, rfl, .inl rfl, BW.out⟩
    · have hr2 : ¬ r < 0 := by omega
      go_wp2
      go_ret
      exact ⟨_, rfl, .inr ⟨hr0, by omega⟩, BW.out⟩

set_option maxHeartbeats 800000 in
theorem szExNodeS_any (v : Value) (ns : List NodeD) (left : Int) (w : World) (h0 : 0 ≤ left) (h1 : left ≤ 1048576) (h : NArg w v ns) :
    Calls Tryd.prog 9 #[v, .int .i64 left] w fun e w' => ∃ r : Int, e = .returned (.int .i64 r) ∧ (r = -1 ∨ (0 ≤ r ∧ r + ns.length + totN ns = left)) ∧ Below w.heap.size w w' := by
  obtain ⟨hr, hm, hz⟩ := h
  have HR : Hid (NRow w v ns) := hr
  have HZ : Hid (∀ x ∈ ns, NodeIn x) := hz
  obtain ⟨a, cap, rfl⟩ := hr.slice
  clear hr hz
  unfold maxLen at hm
  by_cases hl : left < ns.length
  · have h2 : left - (ns.length : Int) < 0 := by omega
    go_enter Tryd.func9, Tryd.ntmps9
    go_wp2
    go_ret
    exact ⟨_, rfl, .inl rfl, Below.refl _ _⟩
  · go_enter Tryd.func9, Tryd.ntmps9
    go_wp2
    go_loopw [1, 5] (fun rv iv wr => ∃ (r : Int) (k : Nat), rv = .int .i64 r ∧ iv = .int .i64 k ∧ k ≤ ns.length ∧ 0 ≤ r ∧ r + ns.length + totN (ns.take k) = left ∧ Below w.heap.size w wr) (fun _ iv _ => ns.length - (intOf iv).toNat)
    case atStart => exact ⟨_, 0, rfl, rfl, Nat.zero_le _, by omega, by simp [totN], Below.refl _ _⟩
    case round =>
      obtain ⟨r, k, rfl, rfl, hk, hr, ht, hb⟩ := hrel
      have HB : Hid (Below w.heap.size w wr) := hb
      have HRr : Hid (NRow wr (.slice a ns.length cap) ns) := HR.out.below hb
      clear hb
      by_cases hlt : k < ns.length
      · obtain ⟨b, off, kv, rfl, n0, n1, n2, n3, hI⟩ := HRr.out.at hlt
        obtain ⟨ak, ck, rfl⟩ := hI.slice
        have hnx := totN_next ns k hlt
        have hx := HZ.out _ (List.getElem_mem hlt)
        have HS : Hid (∀ W, _) := fun W => szExNode_any ns[k].op ns[k].num ns[k].name ak ns[k].kids.length ck r W hr (by omega) hx.2.2.1 hx.2.2.2.1
        clear hx hI
        go_wp2_with fail
        refine (HS.out _).mono ?_
        rintro e w1 ⟨r1, rfl, hr1, hb1⟩
        have HB1 : Hid (Below w.heap.size w w1) := HB.out.trans (hb1.mono HB.out.size)
        clear hb1
        rcases hr1 with rfl | ⟨hr1, hr2⟩
        · go_wp2
          go_ret
          exact ⟨_, rfl, .inl rfl, HB1.out⟩
        · have hr3 : ¬ r1 < 0 := by omega
          go_wp2
          go_roundw
          case rel => exact ⟨r1, k + 1, rfl, by go_num, by omega, hr1, by omega, HB1.out⟩
          case measure => simp [intOf]; omega
      · obtain rfl : k = ns.length := by omega
        rw [List.take_of_length_le (Nat.le_refl _)] at ht
        go_wp2
        go_ret
        exact ⟨_, rfl, .inr ⟨hr, ht⟩, HB.out⟩

theorem szExpr_any (v : Value) (ns : List NodeD) (left : Int) (w : World) (h0 : 0 ≤ left) (h1 : left ≤ 1048576) (h : NArg w v ns) :
    Calls Tryd.prog 4 #[.agg #[v], .int .i64 left] w fun e w' => ∃ r : Int, e = .returned (.int .i64 r) ∧ (r = -1 ∨ (0 ≤ r ∧ r + ns.length + totN ns = left)) ∧ Below w.heap.size w w' := by
  have BW : Hid (Below w.heap.size w (w.alloc (.cells #[v] 24))) := (Below.refl _ _).alloc (Nat.le_refl _) _
  have HZ : Hid (_) := szExNodeS_any v ns left (w.alloc (.cells #[v] 24)) h0 h1 ⟨h.1.below BW.out, h.2⟩
  obtain ⟨a, cap, rfl⟩ := h.1.slice
  clear h
  go_enter Tryd.func4, Tryd.ntmps4
  go_wp2_with fail
  refine Calls.mono HZ.out ?_
  rintro e w1 ⟨r, rfl, hr, hb1⟩
  have B1 : Hid (Below w.heap.size w w1) := BW.out.trans (hb1.mono BW.out.size)
  clear hb1 HZ
  rcases hr with rfl | ⟨hr0, hr1⟩
  · go_wp2
    go_ret
    exact ⟨_, rfl, .inl rfl, B1.out⟩
  · have hr2 : ¬ r < 0 := by omega
    go_wp2
    go_ret
    exact ⟨_, rfl, .inr ⟨hr0, hr1⟩, B1.out⟩

/-- Numbers that the call owns. -/
def zv (ks : List Int) : List Value := ks.map (.int .i64 ·)
theorem zv_len (ks : List Int) : (zv ks).length = ks.length := by simp [zv]
def OwnZ (B : Nat) (v : Value) (ks : List Int) (w : World) : Prop := w.ownsRow B 3 1 v ks.length (zv ks)
theorem OwnZ.row {B : Nat} {v : Value} {ks : List Int} {w : World} (h : OwnZ B v ks w) : IRow w v ks := by
  rcases h.2 with ⟨rfl, hz⟩ | ⟨g, cap, cur, rfl, hB, hc, hle, hm, hs, ht⟩
  · exact ⟨none, 0, by rw [hz], fun _ => rfl, fun h0 => by omega⟩
  · refine ⟨some ⟨g, 0, none⟩, cap, rfl, fun h => (by cases h), fun _ => ⟨g, 0, rfl, (Array.getElem?_eq_some_iff.1 hc).1, fun i hi => ?_⟩⟩
    have := World.ownsRow.cells h (g := g) rfl i (.int .i64 ks[i]) (by simp [zv, hi])
    rwa [Addr.add_lit] at this
theorem OwnZ.below {B : Nat} {v : Value} {ks : List Int} {w w' : World} (h : OwnZ B v ks w) (hb : Below w.heap.size w w') : OwnZ B v ks w' := own_below h hb
theorem OwnZ.base {B B' : Nat} {v : Value} {ks : List Int} {w : World} (h : OwnZ B v ks w) (hB : B' ≤ B) : OwnZ B' v ks w := by
  refine ⟨h.1, ?_⟩
  rcases h.2 with h | ⟨g, cap, cur, e, hg, r⟩
  · exact .inl h
  · exact .inr ⟨g, cap, cur, e, Nat.le_trans hB hg, r⟩
theorem Tryd.infoInt5 : (Tryd.prog.info? 3).map (fun i => (i.zero, i.size, i.bytes)) = some (some (.int .i64 0), 1, 8) := by kernel_rfl

theorem take_z (cs : List Value) (j : Nat) (a : Value) (h : j < cs.length) : (cs.set j a).take (j + 1) = cs.take j ++ [a] := by
  rw [List.take_succ_eq_append_getElem (by simpa using h), List.take_set_of_le (Nat.le_refl _)]
  simp

set_option maxHeartbeats 800000 in
theorem toIntS_any (v : Value) (ks : List Int) (w : World) (hm : ks.length ≤ 1048576) (h : IRow w v ks) :
    Calls Tryd.prog 30 #[v] w fun e w' => ∃ o, e = .returned o ∧ OwnZ w.heap.size o ks w' ∧ Below w.heap.size w w' := by
  obtain ⟨i0, hi, hz0, hz1, hz2⟩ := info_parts Tryd.infoInt5
  have HR : Hid (IRow w v ks) := h
  obtain ⟨a, cap, rfl⟩ := h.slice
  clear h
  go_enter Tryd.func30, Tryd.ntmps30
  go_wp2_with (at_make; refine wpList_make_full _ rfl _ _ 37 rfl w.heap.size 3 i0 _ 1 Tryd.underlying37 hi hz0 hz1 .i64 .i64 _ _ ks.length rfl rfl rfl rfl (by rw [hz2]; omega) (by unfold maxLen; omega) (Nat.le_refl _) ?_; intro w1 hown hg1)
  have HO : Hid (_) := hown
  have HB1 : Hid (Below w.heap.size w w1) := (Below.refl _ _).grown hg1 (Nat.le_refl _) (fun k h => by cases h)
  clear hown hg1
  go_loopw [4] (fun iv wr => ∃ (k : Nat) (cs : List Value), iv = .int .i64 k ∧ k ≤ ks.length ∧ wr.ownsRow w.heap.size 3 1 (.slice (some ⟨w.heap.size, 0, none⟩) ks.length ks.length) ks.length cs ∧ cs.take k = zv (ks.take k) ∧ Below w.heap.size w wr) (fun iv _ => ks.length - (intOf iv).toNat)
  case atStart => exact ⟨0, _, rfl, Nat.zero_le _, HO.out, rfl, HB1.out⟩
  case round =>
    obtain ⟨k, cs, rfl, hk, hown, hcs, hb⟩ := hrel
    have HW : Hid (wr.ownsRow w.heap.size 3 1 (.slice (some ⟨w.heap.size, 0, none⟩) ks.length ks.length) ks.length cs) := hown
    have HS : Hid (cs.take k = zv (ks.take k)) := hcs
    have HB : Hid (Below w.heap.size w wr) := hb
    have HRr : Hid (IRow wr (.slice a ks.length cap) ks) := HR.out.below hb
    clear hb hcs hown HO
    by_cases hlt : k < ks.length
    · obtain ⟨b, off, rfl, hc1⟩ := HRr.out.at hlt
      obtain ⟨c0, hc0, f0⟩ := own_cell HW.out k (by omega)
      go_wp2
      go_roundw
      case rel =>
        have s1 := World.ownsRow.stored HW.out k (.int .i64 ks[k])
        have hl : k < cs.length := by rw [HW.out.1]; omega
        refine ⟨k + 1, _, by go_num, by omega, s1.1, ?_, HB.out.setCell (Nat.le_refl _) _⟩
        rw [take_z cs k _ hl, HS.out, List.take_succ_eq_append_getElem hlt]
        simp only [zv, List.map_append, List.map_cons, List.map_nil]
      case measure => simp [intOf]; omega
    · obtain rfl : k = ks.length := by omega
      have HF : Hid (OwnZ w.heap.size (.slice (some ⟨w.heap.size, 0, none⟩) ks.length ks.length) ks wr) := by
        have h1 := HS.out
        rw [List.take_of_length_le (by rw [HW.out.1]; omega), List.take_of_length_le (Nat.le_refl _)] at h1
        have h2 := HW.out
        rw [h1] at h2
        exact h2
      clear HW HS
      go_wp2
      go_ret
      exact ⟨_, rfl, HF.out, HB.out⟩

end Go.Proofs.YtccbbghlckbihaaDoor
