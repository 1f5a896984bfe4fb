/- The laws' own helpers on expressions: how great they are, copied. -/
/- The laws' own helpers on expressions: nodes copied. -/
import Derived.Test.YtofpoiccghpliaaGreatDoorXOk
import Derived.Handy
import Derived.OwnWalk
import Derived.Laws.OwnMore
namespace Go.Proofs.YtofpoiccghpliaaGreatDoor
open Go.RowKit

/-- How much the nodes hold. -/
def totN (ns : List NodeD) : Nat := (ns.map fun x => x.name.size + x.kids.length).sum
theorem totN_next (ns : List NodeD) (k : Nat) (h : k < ns.length) : totN (ns.take (k + 1)) = totN (ns.take k) + (ns[k].name.size + ns[k].kids.length) := by
  rw [List.take_succ_eq_append_getElem h]
  simp only [totN, List.map_append, List.sum_append, List.map_cons, List.map_nil, List.sum_cons, List.sum_nil, Nat.add_zero]
theorem totN_mem {ns : List NodeD} {x : NodeD} (h : x ∈ ns) : x.name.size + x.kids.length ≤ totN ns := by
  induction ns with
  | nil => cases h
  | cons y ns ih =>
    simp only [totN, List.map_cons, List.sum_cons]
    rcases List.mem_cons.1 h with rfl | h
    · omega
    · have := ih h; simp only [totN] at this; omega

theorem szIntS_any (a : Option Addr) (n cap : Nat) (left : Int) (w : World) (h0 : 0 ≤ left) (h1 : left ≤ 1048576) (hn : n ≤ maxLen) :
    Calls Tryz.prog 145 #[.slice a n cap, .int .i64 left] w fun e w' => ∃ r : Int, e = .returned (.int .i64 r) ∧ (r = -1 ∨ (0 ≤ r ∧ r + n = left)) ∧ w' = w := by
  unfold maxLen at hn
  by_cases h : left < n
  · have h2 : left - (n : Int) < 0 := by omega
    go_enter Tryz.func145, Tryz.ntmps145
    go_wp2
    go_ret
    exact ⟨_, rfl, .inl rfl, rfl⟩
  · go_enter Tryz.func145, Tryz.ntmps145
    go_wp2
    go_ret
    exact ⟨_, rfl, .inr ⟨by omega, by omega⟩, rfl⟩

theorem szExNode_any (op num : Int) (name : ByteArray) (a : Option Addr) (n cap : Nat) (left : Int) (w : World) (h0 : 0 ≤ left) (h1 : left ≤ 1048576) (hs : name.size ≤ maxLen) (hn : n ≤ maxLen) :
    Calls Tryz.prog 126 #[.agg #[.int .i64 op, .int .i64 num, .string name, .slice a n cap], .int .i64 left] w fun e w' => ∃ r : Int, e = .returned (.int .i64 r) ∧ (r = -1 ∨ (0 ≤ r ∧ r + (name.size + n : Nat) = left)) ∧ Below w.heap.size w w' := by
  have hs2 : name.size ≤ 9223372036854775807 := by unfold maxLen at hs; omega
  by_cases h : left < name.size
  · have h2 : left - (name.size : Int) < 0 := by omega
    go_enter Tryz.func126, Tryz.ntmps126
    go_wp2
    go_ret
    exact ⟨_, rfl, .inl rfl, (Below.refl _ _).alloc (Nat.le_refl _) _⟩
  · have h2 : ¬ left - (name.size : Int) < 0 := by omega
    have BW : Hid (Below w.heap.size w (w.alloc (.cells #[.int .i64 op, .int .i64 num, .string name, .slice a n cap] 180))) := (Below.refl _ _).alloc (Nat.le_refl _) _
    have HZ : Hid (∀ W, _) := fun W => szIntS_any a n cap (left - (name.size : Int)) W (by omega) (by omega) hn
    go_enter Tryz.func126, Tryz.ntmps126
    go_wp2_with fail
    refine (HZ.out _).mono ?_
    rintro e wq ⟨r, rfl, hr, hw⟩
    rw [hw]
    clear hw wq
    rcases hr with rfl | ⟨hr0, hr1⟩
    · go_wp2
      go_ret
      exact ⟨_, rfl, .inl rfl, BW.out⟩
    · have hr2 : ¬ r < 0 := by omega
      go_wp2
      go_ret
      exact ⟨_, rfl, .inr ⟨hr0, by omega⟩, BW.out⟩

set_option maxHeartbeats 800000 in
theorem szExNodeS_any (v : Value) (ns : List NodeD) (left : Int) (w : World) (h0 : 0 ≤ left) (h1 : left ≤ 1048576) (h : NArg w v ns) :
    Calls Tryz.prog 118 #[v, .int .i64 left] w fun e w' => ∃ r : Int, e = .returned (.int .i64 r) ∧ (r = -1 ∨ (0 ≤ r ∧ r + ns.length + totN ns = left)) ∧ Below w.heap.size w w' := by
  obtain ⟨hr, hm, hz⟩ := h
  have HR : Hid (NRow w v ns) := hr
  have HZ : Hid (∀ x ∈ ns, NodeIn x) := hz
  obtain ⟨a, cap, rfl⟩ := hr.slice
  clear hr hz
  unfold maxLen at hm
  by_cases hl : left < ns.length
  · have h2 : left - (ns.length : Int) < 0 := by omega
    go_enter Tryz.func118, Tryz.ntmps118
    go_wp2
    go_ret
    exact ⟨_, rfl, .inl rfl, Below.refl _ _⟩
  · go_enter Tryz.func118, Tryz.ntmps118
    go_wp2
    go_loopw [1, 5] (fun rv iv wr => ∃ (r : Int) (k : Nat), rv = .int .i64 r ∧ iv = .int .i64 k ∧ k ≤ ns.length ∧ 0 ≤ r ∧ r + ns.length + totN (ns.take k) = left ∧ Below w.heap.size w wr) (fun _ iv _ => ns.length - (intOf iv).toNat)
    case atStart => exact ⟨_, 0, rfl, rfl, Nat.zero_le _, by omega, by simp [totN], Below.refl _ _⟩
    case round =>
      obtain ⟨r, k, rfl, rfl, hk, hr, ht, hb⟩ := hrel
      have HB : Hid (Below w.heap.size w wr) := hb
      have HRr : Hid (NRow wr (.slice a ns.length cap) ns) := HR.out.below hb
      clear hb
      by_cases hlt : k < ns.length
      · obtain ⟨b, off, kv, rfl, n0, n1, n2, n3, hI⟩ := HRr.out.at hlt
        obtain ⟨ak, ck, rfl⟩ := hI.slice
        have hnx := totN_next ns k hlt
        have hx := HZ.out _ (List.getElem_mem hlt)
        have HS : Hid (∀ W, _) := fun W => szExNode_any ns[k].op ns[k].num ns[k].name ak ns[k].kids.length ck r W hr (by omega) hx.2.2.1 hx.2.2.2.1
        clear hx hI
        go_wp2_with fail
        refine (HS.out _).mono ?_
        rintro e w1 ⟨r1, rfl, hr1, hb1⟩
        have HB1 : Hid (Below w.heap.size w w1) := HB.out.trans (hb1.mono HB.out.size)
        clear hb1
        rcases hr1 with rfl | ⟨hr1, hr2⟩
        · go_wp2
          go_ret
          exact ⟨_, rfl, .inl rfl, HB1.out⟩
        · have hr3 : ¬ r1 < 0 := by omega
          go_wp2
          go_roundw
          case rel => exact ⟨r1, k + 1, rfl, by go_num, by omega, hr1, by omega, HB1.out⟩
          case measure => simp [intOf]; omega
      · obtain rfl : k = ns.length := by omega
        rw [List.take_of_length_le (Nat.le_refl _)] at ht
        go_wp2
        go_ret
        exact ⟨_, rfl, .inr ⟨hr, ht⟩, HB.out⟩

theorem szExpr_any (v : Value) (ns : List NodeD) (left : Int) (w : World) (h0 : 0 ≤ left) (h1 : left ≤ 1048576) (h : NArg w v ns) :
    Calls Tryz.prog 108 #[.agg #[v], .int .i64 left] w fun e w' => ∃ r : Int, e = .returned (.int .i64 r) ∧ (r = -1 ∨ (0 ≤ r ∧ r + ns.length + totN ns = left)) ∧ Below w.heap.size w w' := by
  have BW : Hid (Below w.heap.size w (w.alloc (.cells #[v] 151))) := (Below.refl _ _).alloc (Nat.le_refl _) _
  have HZ : Hid (_) := szExNodeS_any v ns left (w.alloc (.cells #[v] 151)) h0 h1 ⟨h.1.below BW.out, h.2⟩
  obtain ⟨a, cap, rfl⟩ := h.1.slice
  clear h
  go_enter Tryz.func108, Tryz.ntmps108
  go_wp2_with fail
  refine Calls.mono HZ.out ?_
  rintro e w1 ⟨r, rfl, hr, hb1⟩
  have B1 : Hid (Below w.heap.size w w1) := BW.out.trans (hb1.mono BW.out.size)
  clear hb1 HZ
  rcases hr with rfl | ⟨hr0, hr1⟩
  · go_wp2
    go_ret
    exact ⟨_, rfl, .inl rfl, B1.out⟩
  · have hr2 : ¬ r < 0 := by omega
    go_wp2
    go_ret
    exact ⟨_, rfl, .inr ⟨hr0, hr1⟩, B1.out⟩

/-- Numbers that the call owns. -/
def zv (ks : List Int) : List Value := ks.map (.int .i64 ·)
theorem zv_len (ks : List Int) : (zv ks).length = ks.length := by simp [zv]
def OwnZ (B : Nat) (v : Value) (ks : List Int) (w : World) : Prop := w.ownsRow B 3 1 v ks.length (zv ks)
theorem OwnZ.row {B : Nat} {v : Value} {ks : List Int} {w : World} (h : OwnZ B v ks w) : IRow w v ks := by
  rcases h.2 with ⟨rfl, hz⟩ | ⟨g, cap, cur, rfl, hB, hc, hle, hm, hs, ht⟩
  · exact ⟨none, 0, by rw [hz], fun _ => rfl, fun h0 => by omega⟩
  · refine ⟨some ⟨g, 0, none⟩, cap, rfl, fun h => (by cases h), fun _ => ⟨g, 0, rfl, (Array.getElem?_eq_some_iff.1 hc).1, fun i hi => ?_⟩⟩
    have := World.ownsRow.cells h (g := g) rfl i (.int .i64 ks[i]) (by simp [zv, hi])
    rwa [Addr.add_lit] at this
theorem OwnZ.below {B : Nat} {v : Value} {ks : List Int} {w w' : World} (h : OwnZ B v ks w) (hb : Below w.heap.size w w') : OwnZ B v ks w' := own_below h hb
theorem OwnZ.base {B B' : Nat} {v : Value} {ks : List Int} {w : World} (h : OwnZ B v ks w) (hB : B' ≤ B) : OwnZ B' v ks w := by
  refine ⟨h.1, ?_⟩
  rcases h.2 with h | ⟨g, cap, cur, e, hg, r⟩
  · exact .inl h
  · exact .inr ⟨g, cap, cur, e, Nat.le_trans hB hg, r⟩
theorem Tryz.infoInt5 : (Tryz.prog.info? 3).map (fun i => (i.zero, i.size, i.bytes)) = some (some (.int .i64 0), 1, 8) := by kernel_rfl

theorem take_z (cs : List Value) (j : Nat) (a : Value) (h : j < cs.length) : (cs.set j a).take (j + 1) = cs.take j ++ [a] := by
  rw [List.take_succ_eq_append_getElem (by simpa using h), List.take_set_of_le (Nat.le_refl _)]
  simp

set_option maxHeartbeats 800000 in
theorem toIntS_any (v : Value) (ks : List Int) (w : World) (hm : ks.length ≤ 1048576) (h : IRow w v ks) :
    Calls Tryz.prog 146 #[v] w fun e w' => ∃ o, e = .returned o ∧ OwnZ w.heap.size o ks w' ∧ Below w.heap.size w w' := by
  obtain ⟨i0, hi, hz0, hz1, hz2⟩ := info_parts Tryz.infoInt5
  have HR : Hid (IRow w v ks) := h
  obtain ⟨a, cap, rfl⟩ := h.slice
  clear h
  go_enter Tryz.func146, Tryz.ntmps146
  go_wp2_with (at_make; refine wpList_make_full _ rfl _ _ 136 rfl w.heap.size 3 i0 _ 1 Tryz.underlying136 hi hz0 hz1 .i64 .i64 _ _ ks.length rfl rfl rfl rfl (by rw [hz2]; omega) (by unfold maxLen; omega) (Nat.le_refl _) ?_; intro w1 hown hg1)
  have HO : Hid (_) := hown
  have HB1 : Hid (Below w.heap.size w w1) := (Below.refl _ _).grown hg1 (Nat.le_refl _) (fun k h => by cases h)
  clear hown hg1
  go_loopw [4] (fun iv wr => ∃ (k : Nat) (cs : List Value), iv = .int .i64 k ∧ k ≤ ks.length ∧ wr.ownsRow w.heap.size 3 1 (.slice (some ⟨w.heap.size, 0, none⟩) ks.length ks.length) ks.length cs ∧ cs.take k = zv (ks.take k) ∧ Below w.heap.size w wr) (fun iv _ => ks.length - (intOf iv).toNat)
  case atStart => exact ⟨0, _, rfl, Nat.zero_le _, HO.out, rfl, HB1.out⟩
  case round =>
    obtain ⟨k, cs, rfl, hk, hown, hcs, hb⟩ := hrel
    have HW : Hid (wr.ownsRow w.heap.size 3 1 (.slice (some ⟨w.heap.size, 0, none⟩) ks.length ks.length) ks.length cs) := hown
    have HS : Hid (cs.take k = zv (ks.take k)) := hcs
    have HB : Hid (Below w.heap.size w wr) := hb
    have HRr : Hid (IRow wr (.slice a ks.length cap) ks) := HR.out.below hb
    clear hb hcs hown HO
    by_cases hlt : k < ks.length
    · obtain ⟨b, off, rfl, hc1⟩ := HRr.out.at hlt
      obtain ⟨c0, hc0, f0⟩ := own_cell HW.out k (by omega)
      go_wp2
      go_roundw
      case rel =>
        have s1 := World.ownsRow.stored HW.out k (.int .i64 ks[k])
        have hl : k < cs.length := by rw [HW.out.1]; omega
        refine ⟨k + 1, _, by go_num, by omega, s1.1, ?_, HB.out.setCell (Nat.le_refl _) _⟩
        rw [take_z cs k _ hl, HS.out, List.take_succ_eq_append_getElem hlt]
        simp only [zv, List.map_append, List.map_cons, List.map_nil]
      case measure => simp [intOf]; omega
    · obtain rfl : k = ks.length := by omega
      have HF : Hid (OwnZ w.heap.size (.slice (some ⟨w.heap.size, 0, none⟩) ks.length ks.length) ks wr) := by
        have h1 := HS.out
        rw [List.take_of_length_le (by rw [HW.out.1]; omega), List.take_of_length_le (Nat.le_refl _)] at h1
        have h2 := HW.out
        rw [h1] at h2
        exact h2
      clear HW HS
      go_wp2
      go_ret
      exact ⟨_, rfl, HF.out, HB.out⟩

end Go.Proofs.YtofpoiccghpliaaGreatDoor

namespace Go.Proofs.YtofpoiccghpliaaGreatDoor
open Go.RowKit

theorem frozen_keep4 {w w' : World} {b o : Nat} (h : w.frozen? ⟨b, o, none⟩ = false) (hlt : b < w.heap.size) (hb : Below w.heap.size w w') : w'.frozen? ⟨b, o, none⟩ = false := by
  unfold World.frozen? at h ⊢
  rw [hb.block b hlt]
  exact h

theorem grow_set (w : World) (b j : Nat) (u : Value) : w.grownBy (w.setCell ⟨b, j, none⟩ u) (some b) :=
  ⟨rfl, rfl, rfl, by simp, fun k _ hk => by
    simp only [World.setCell]
    rw [Array.getElem?_modify, if_neg (fun e => hk (by rw [← e]))]⟩
theorem off_block {B : Nat} {v : Value} {ks : List Int} {w : World} (h : OwnZ B v ks w) {b : Nat} (hb : b < B) : v.ownBlock = none ∨ v.ownBlock ≠ some b := by
  cases hv : v.ownBlock with
  | none => exact .inl rfl
  | some k => exact .inr (fun e => by have := (World.ownsRow.lt h k hv).1; have e2 : k = b := Option.some.inj e; omega)

theorem set_four {w : World} {b : Nat} {x y z u : Value} (h0 : w.cell? ⟨b, 0, none⟩ = some x) (h1 : w.cell? ⟨b, 1, none⟩ = some y) (h2 : w.cell? ⟨b, 2, none⟩ = some z) (h3 : w.cell? ⟨b, 3, none⟩ = some u) (p q r s : Value) :
    ((((w.setCell ⟨b, 0, none⟩ p).setCell ⟨b, 1, none⟩ q).setCell ⟨b, 2, none⟩ r).setCell ⟨b, 3, none⟩ s).cell? ⟨b, 0, none⟩ = some p ∧ ((((w.setCell ⟨b, 0, none⟩ p).setCell ⟨b, 1, none⟩ q).setCell ⟨b, 2, none⟩ r).setCell ⟨b, 3, none⟩ s).cell? ⟨b, 1, none⟩ = some q
      ∧ ((((w.setCell ⟨b, 0, none⟩ p).setCell ⟨b, 1, none⟩ q).setCell ⟨b, 2, none⟩ r).setCell ⟨b, 3, none⟩ s).cell? ⟨b, 2, none⟩ = some r ∧ ((((w.setCell ⟨b, 0, none⟩ p).setCell ⟨b, 1, none⟩ q).setCell ⟨b, 2, none⟩ r).setCell ⟨b, 3, none⟩ s).cell? ⟨b, 3, none⟩ = some s := by
  have o : ∀ (W : World) (i j : Nat) (t : Value), i ≠ j → (W.setCell ⟨b, i, none⟩ t).cell? ⟨b, j, none⟩ = W.cell? ⟨b, j, none⟩ := fun W i j t hij => World.cell?_setCell_other _ _ _ _ (by intro e; cases e; exact hij rfl)
  refine ⟨?_, ?_, ?_, ?_⟩
  · rw [o _ 3 0 _ (by omega), o _ 2 0 _ (by omega), o _ 1 0 _ (by omega)]; exact World.cell?_setCell_same _ _ _ h0
  · rw [o _ 3 1 _ (by omega), o _ 2 1 _ (by omega)]; exact World.cell?_setCell_same _ _ _ ((o _ 0 1 _ (by omega)).trans h1)
  · rw [o _ 3 2 _ (by omega)]; exact World.cell?_setCell_same _ _ _ ((o _ 1 2 _ (by omega)).trans ((o _ 0 2 _ (by omega)).trans h2))
  · exact World.cell?_setCell_same _ _ _ ((o _ 2 3 _ (by omega)).trans ((o _ 1 3 _ (by omega)).trans ((o _ 0 3 _ (by omega)).trans h3)))

theorem ex_at (w : World) (x y z u x' y' z' u' x2 y2 z2 u2 : Value) (s t : TypeId) {B : Nat} (hB : w.heap.size = B) :
    (((w.alloc (.cells #[x, y, z, u] s)).alloc (.cells #[x', y', z', u'] t)).alloc (.cells #[x2, y2, z2, u2] t)).heap[B]? = some (.cells #[x, y, z, u] s) ∧
    (((w.alloc (.cells #[x, y, z, u] s)).alloc (.cells #[x', y', z', u'] t)).alloc (.cells #[x2, y2, z2, u2] t)).heap[B + 1]? = some (.cells #[x', y', z', u'] t) ∧
    (((w.alloc (.cells #[x, y, z, u] s)).alloc (.cells #[x', y', z', u'] t)).alloc (.cells #[x2, y2, z2, u2] t)).heap[B + 2]? = some (.cells #[x2, y2, z2, u2] t) := by
  subst hB
  have e1 : (w.alloc (.cells #[x, y, z, u] s)).heap.size = w.heap.size + 1 := by simp
  have e2 : ((w.alloc (.cells #[x, y, z, u] s)).alloc (.cells #[x', y', z', u'] t)).heap.size = w.heap.size + 2 := by simp
  refine ⟨?_, ?_, ?_⟩
  · rw [Below.heap_alloc _ _ _ (by rw [e2]; omega), Below.heap_alloc _ _ _ (by rw [e1]; omega)]
    exact heap_alloc_new w _
  · rw [Below.heap_alloc _ _ _ (by rw [e2]; omega)]
    have := heap_alloc_new (w.alloc (.cells #[x, y, z, u] s)) (.cells #[x', y', z', u'] t)
    rwa [e1] at this
  · have := heap_alloc_new ((w.alloc (.cells #[x, y, z, u] s)).alloc (.cells #[x', y', z', u'] t)) (.cells #[x2, y2, z2, u2] t)
    rwa [e2] at this

set_option maxHeartbeats 1600000 in
theorem toExNode_any (op num : Int) (name : ByteArray) (kv : Value) (ks : List Int) (w : World) (hm : ks.length ≤ 1048576) (h : IRow w kv ks) :
    Calls Tryz.prog 127 #[.agg #[.int .i64 op, .int .i64 num, .string name, kv]] w fun e w' => ∃ o, e = .returned (.agg #[.int .i64 op, .int .i64 num, .string name, o]) ∧ OwnZ w.heap.size o ks w' ∧ Below w.heap.size w w' := by
  obtain ⟨a, cap, rfl⟩ := h.slice
  have HR : Hid (IRow w (.slice a ks.length cap) ks) := h
  clear h
  obtain ⟨B, hB⟩ : ∃ B, w.heap.size = B := ⟨_, rfl⟩
  go_enter Tryz.func127, Tryz.ntmps127
  go_wp2_with fail
  obtain ⟨hb0, hb1, hb2⟩ := ex_at w (.int .i64 op) (.int .i64 num) (.string name) (.slice a ks.length cap) (.int .i64 0) (.int .i64 0) (.string ⟨#[]⟩) (.slice none 0 0) (.int .i64 op) (.int .i64 num) (.string name) (.slice none 0 0) 180 138 hB
  have BW : Hid (Below w.heap.size w (((w.alloc (.cells #[.int .i64 op, .int .i64 num, .string name, .slice a ks.length cap] 180)).alloc (.cells #[.int .i64 0, .int .i64 0, .string ⟨#[]⟩, .slice none 0 0] 138)).alloc (.cells #[.int .i64 op, .int .i64 num, .string name, .slice none 0 0] 138))) := (((Below.refl _ _).alloc (Nat.le_refl _) _).alloc (by simp) _).alloc (by simp; omega) _
  have hszW : (((w.alloc (.cells #[.int .i64 op, .int .i64 num, .string name, .slice a ks.length cap] 180)).alloc (.cells #[.int .i64 0, .int .i64 0, .string ⟨#[]⟩, .slice none 0 0] 138)).alloc (.cells #[.int .i64 op, .int .i64 num, .string name, .slice none 0 0] 138)).heap.size = B + 3 := by simp [hB]
  generalize ((w.alloc (.cells #[.int .i64 op, .int .i64 num, .string name, .slice a ks.length cap] 180)).alloc (.cells #[.int .i64 0, .int .i64 0, .string ⟨#[]⟩, .slice none 0 0] 138)).alloc (.cells #[.int .i64 op, .int .i64 num, .string name, .slice none 0 0] 138) = W0 at *
  refine (toIntS_any _ ks W0 hm (HR.out.below BW.out)).mono ?_
  rintro e w2 ⟨o, rfl, ho, hbc⟩
  have B2 : Hid (Below w.heap.size w w2) := BW.out.trans (hbc.mono BW.out.size)
  have HO2 : Hid (OwnZ (B + 3) o ks w2) := by rw [← hszW]; exact ho
  obtain ⟨ao, co, rfl⟩ := ho.row.slice
  have k1 : w2.heap[B + 1]? = some (.cells #[.int .i64 0, .int .i64 0, .string ⟨#[]⟩, .slice none 0 0] 138) := (hbc.block _ (by omega)).trans hb1
  have k2 : w2.heap[B + 2]? = some (.cells #[.int .i64 op, .int .i64 num, .string name, .slice none 0 0] 138) := (hbc.block _ (by omega)).trans hb2
  clear ho hbc hb0 hb1 hb2
  have c10 : w2.cell? ⟨B + 1, 0, none⟩ = some (.int .i64 0) := by rw [cell_of_row _ _ 0 _ _ _ k1]; rfl
  have c11 : w2.cell? ⟨B + 1, 1, none⟩ = some (.int .i64 0) := by rw [cell_of_row _ _ 1 _ _ _ k1]; rfl
  have c12 : w2.cell? ⟨B + 1, 2, none⟩ = some (.string ⟨#[]⟩) := by rw [cell_of_row _ _ 2 _ _ _ k1]; rfl
  have c13 : w2.cell? ⟨B + 1, 3, none⟩ = some (.slice none 0 0) := by rw [cell_of_row _ _ 3 _ _ _ k1]; rfl
  have c20 : w2.cell? ⟨B + 1 + 1, 0, none⟩ = some (.int .i64 op) := by rw [cell_of_row _ _ 0 _ _ _ k2]; rfl
  have c21 : w2.cell? ⟨B + 1 + 1, 1, none⟩ = some (.int .i64 num) := by rw [cell_of_row _ _ 1 _ _ _ k2]; rfl
  have c22 : w2.cell? ⟨B + 1 + 1, 2, none⟩ = some (.string name) := by rw [cell_of_row _ _ 2 _ _ _ k2]; rfl
  have c23 : w2.cell? ⟨B + 1 + 1, 3, none⟩ = some (.slice none 0 0) := by rw [cell_of_row _ _ 3 _ _ _ k2]; rfl
  have f1 : ∀ j, w2.frozen? ⟨B + 1, j, none⟩ = false := fun j => by unfold World.frozen?; rw [k1]; simp
  have f2 : ∀ j, w2.frozen? ⟨B + 1 + 1, j, none⟩ = false := fun j => by unfold World.frozen?; rw [show B + 1 + 1 = B + 2 from rfl, k2]; simp
  clear k1 k2
  -- the copy's kids are laid in
  have HO3 : Hid (OwnZ (B + 3) (.slice ao ks.length co) ks (w2.setCell ⟨B + 1 + 1, 3, none⟩ (.slice ao ks.length co))) := World.ownsRow.kept HO2.out (grow_set w2 (B + 1 + 1) 3 (.slice ao ks.length co)) (off_block HO2.out (by omega))
  have B3 : Hid (Below w.heap.size w (w2.setCell ⟨B + 1 + 1, 3, none⟩ (.slice ao ks.length co))) := B2.out.setCell (by show w.heap.size ≤ B + 1 + 1; omega) _
  have d20 : (w2.setCell ⟨B + 1 + 1, 3, none⟩ (.slice ao ks.length co)).cell? ⟨B + 1 + 1, 0, none⟩ = some (.int .i64 op) := (World.cell?_setCell_other _ _ _ _ (by simp)).trans c20
  have d21 : (w2.setCell ⟨B + 1 + 1, 3, none⟩ (.slice ao ks.length co)).cell? ⟨B + 1 + 1, 1, none⟩ = some (.int .i64 num) := (World.cell?_setCell_other _ _ _ _ (by simp)).trans c21
  have d22 : (w2.setCell ⟨B + 1 + 1, 3, none⟩ (.slice ao ks.length co)).cell? ⟨B + 1 + 1, 2, none⟩ = some (.string name) := (World.cell?_setCell_other _ _ _ _ (by simp)).trans c22
  have d23 : (w2.setCell ⟨B + 1 + 1, 3, none⟩ (.slice ao ks.length co)).cell? ⟨B + 1 + 1, 3, none⟩ = some (.slice ao ks.length co) := World.cell?_setCell_same _ _ _ c23
  have d10 : (w2.setCell ⟨B + 1 + 1, 3, none⟩ (.slice ao ks.length co)).cell? ⟨B + 1, 0, none⟩ = some (.int .i64 0) := (World.cell?_setCell_other _ _ _ _ (by simp)).trans c10
  have d11 : (w2.setCell ⟨B + 1 + 1, 3, none⟩ (.slice ao ks.length co)).cell? ⟨B + 1, 1, none⟩ = some (.int .i64 0) := (World.cell?_setCell_other _ _ _ _ (by simp)).trans c11
  have d12 : (w2.setCell ⟨B + 1 + 1, 3, none⟩ (.slice ao ks.length co)).cell? ⟨B + 1, 2, none⟩ = some (.string ⟨#[]⟩) := (World.cell?_setCell_other _ _ _ _ (by simp)).trans c12
  have d13 : (w2.setCell ⟨B + 1 + 1, 3, none⟩ (.slice ao ks.length co)).cell? ⟨B + 1, 3, none⟩ = some (.slice none 0 0) := (World.cell?_setCell_other _ _ _ _ (by simp)).trans c13
  have e1 : ∀ j, (w2.setCell ⟨B + 1 + 1, 3, none⟩ (.slice ao ks.length co)).frozen? ⟨B + 1, j, none⟩ = false := fun j => (World.frozen?_setCell _ _ _ _).trans (f1 j)
  have e10 := e1 0
  have e11 := e1 1
  have e12 := e1 2
  have e13 := e1 3
  have f23 := f2 3
  clear f1 f2 e1 c10 c11 c12 c13 c20 c21 c22
  go_wp2
  generalize w2.setCell ⟨B + 1 + 1, 3, none⟩ (.slice ao ks.length co) = W3 at *
  have HO4 : Hid (OwnZ w.heap.size (.slice ao ks.length co) ks ((((W3.setCell ⟨B + 1, 0, none⟩ (.int .i64 op)).setCell ⟨B + 1, 1, none⟩ (.int .i64 num)).setCell ⟨B + 1, 2, none⟩ (.string name)).setCell ⟨B + 1, 3, none⟩ (.slice ao ks.length co))) := by
    have step : ∀ (W : World) (j : Nat) (u : Value), OwnZ (B + 3) (.slice ao ks.length co) ks W → OwnZ (B + 3) (.slice ao ks.length co) ks (W.setCell ⟨B + 1, j, none⟩ u) := fun W j u hW => World.ownsRow.kept hW (grow_set W (B + 1) j u) (off_block hW (by omega))
    exact (step _ _ _ (step _ _ _ (step _ _ _ (step _ _ _ HO3.out)))).base (by omega)
  have B4 : Hid (Below w.heap.size w ((((W3.setCell ⟨B + 1, 0, none⟩ (.int .i64 op)).setCell ⟨B + 1, 1, none⟩ (.int .i64 num)).setCell ⟨B + 1, 2, none⟩ (.string name)).setCell ⟨B + 1, 3, none⟩ (.slice ao ks.length co))) := by
    have hle : w.heap.size ≤ B + 1 := by omega
    exact (((B3.out.setCell hle _).setCell hle _).setCell hle _).setCell hle _
  obtain ⟨r0, r1, r2, r3⟩ := set_four d10 d11 d12 d13 (.int .i64 op) (.int .i64 num) (.string name) (.slice ao ks.length co)
  clear d10 d11 d12 d13 d20 d21 d22 d23 e10 e11 e12 e13 f23 c23
  generalize (((W3.setCell ⟨B + 1, 0, none⟩ (.int .i64 op)).setCell ⟨B + 1, 1, none⟩ (.int .i64 num)).setCell ⟨B + 1, 2, none⟩ (.string name)).setCell ⟨B + 1, 3, none⟩ (.slice ao ks.length co) = W5 at *
  (try simp only [Exit.inBlock, Exit.then])
  refine bodyPost_ret (by simp [results, Tryz.results127, go_sem, r0, r1, r2, r3]; try rfl) rfl ?_
  exact ⟨_, rfl, HO4.out, B4.out⟩

/-- Nodes with their kids' lists, cell by cell. -/
def nv (qs : List (NodeD × Value)) : List Value := qs.flatMap fun q => [.int .i64 q.1.op, .int .i64 q.1.num, .string q.1.name, q.2]
theorem nv_len (qs : List (NodeD × Value)) : (nv qs).length = qs.length * 4 := by
  induction qs with
  | nil => rfl
  | cons x qs ih => rw [nv, List.flatMap_cons, List.length_append, ← nv, ih]; simp; omega
theorem nv_app (qs rs : List (NodeD × Value)) : nv (qs ++ rs) = nv qs ++ nv rs := by simp [nv]
theorem nv_at : ∀ (qs : List (NodeD × Value)) (i : Nat) (h : i < qs.length), (nv qs)[i * 4]? = some (.int .i64 qs[i].1.op) ∧ (nv qs)[i * 4 + 1]? = some (.int .i64 qs[i].1.num) ∧ (nv qs)[i * 4 + 2]? = some (.string qs[i].1.name) ∧ (nv qs)[i * 4 + 3]? = some qs[i].2
  | q :: qs, 0, _ => ⟨rfl, rfl, rfl, rfl⟩
  | q :: qs, i + 1, h => by
    have := nv_at qs i (by simpa using h)
    have e : nv (q :: qs) = [.int .i64 q.1.op, .int .i64 q.1.num, .string q.1.name, q.2] ++ nv qs := rfl
    have e0 : ∀ j, (nv (q :: qs))[(i + 1) * 4 + j]? = (nv qs)[i * 4 + j]? := fun j => by
      rw [e, List.getElem?_append_right (by simp; omega)]
      congr 1
      simp
      omega
    exact ⟨(e0 0).trans this.1, (e0 1).trans this.2.1, (e0 2).trans this.2.2.1, (e0 3).trans this.2.2.2⟩
def OwnN (B : Nat) (v : Value) (ns : List NodeD) (w : World) : Prop :=
  ∃ qs : List (NodeD × Value), qs.map (·.1) = ns ∧ w.ownsRow B 138 4 v qs.length (nv qs) ∧ ∀ q ∈ qs, OwnZ B q.2 q.1.kids w
theorem OwnN.row {B : Nat} {v : Value} {ns : List NodeD} {w : World} (h : OwnN B v ns w) : NRow w v ns := by
  obtain ⟨qs, rfl, h, hk⟩ := h
  have hl : (qs.map (·.1)).length = qs.length := by simp
  rcases h.2 with ⟨rfl, hz⟩ | ⟨g, cap, cur, rfl, hB, hc, hle, hm, hs, ht⟩
  · exact ⟨none, 0, by rw [hl, hz], fun _ => rfl, fun h0 => by rw [hl] at h0; omega⟩
  · refine ⟨some ⟨g, 0, none⟩, cap, by rw [hl], fun h => (by cases h), fun _ => ⟨g, 0, rfl, (Array.getElem?_eq_some_iff.1 hc).1, fun i hi => ?_⟩⟩
    have key : ∀ j u, (nv qs)[j]? = some u → w.cell? ⟨g, 0 + j, none⟩ = some u := fun j u hu => by
      have := World.ownsRow.cells h (g := g) rfl j u hu
      rwa [Addr.add_lit] at this
    rw [hl] at hi
    have := nv_at qs i hi
    refine ⟨qs[i].2, ?_⟩
    rw [List.getElem_map]
    exact ⟨key _ _ this.1, by rw [Nat.add_assoc]; exact key _ _ this.2.1, by rw [Nat.add_assoc]; exact key _ _ this.2.2.1, by rw [Nat.add_assoc]; exact key _ _ this.2.2.2, (hk _ (List.getElem_mem hi)).row⟩
theorem OwnN.below {B : Nat} {v : Value} {ns : List NodeD} {w w' : World} (h : OwnN B v ns w) (hb : Below w.heap.size w w') : OwnN B v ns w' := by
  obtain ⟨qs, e, h, hk⟩ := h
  exact ⟨qs, e, own_below h hb, fun q hq => (hk q hq).below hb⟩

theorem take_four (cs : List Value) (j : Nat) (a b c d : Value) (h : j + 3 < cs.length) : ((((cs.set j a).set (j + 1) b).set (j + 2) c).set (j + 3) d).take (j + 4) = cs.take j ++ [a, b, c, d] := by
  apply List.ext_getElem?
  intro i
  rw [List.getElem?_take]
  have hl : (cs.take j).length = j := by simp; omega
  by_cases h1 : i < j
  · rw [if_pos (by omega), List.getElem?_set_ne (by omega), List.getElem?_set_ne (by omega), List.getElem?_set_ne (by omega), List.getElem?_set_ne (by omega), List.getElem?_append_left (by omega), List.getElem?_take, if_pos h1]
  · rw [List.getElem?_append_right (by omega), hl]
    by_cases h4 : i < j + 4
    · rw [if_pos h4]
      obtain ⟨t, rfl⟩ : ∃ t, i = j + t := ⟨i - j, by omega⟩
      have ht : t < 4 := by omega
      match t, ht with
      | 0, _ => rw [List.getElem?_set_ne (by omega), List.getElem?_set_ne (by omega), List.getElem?_set_ne (by omega), Nat.add_zero, List.getElem?_set_self (by omega)]; simp
      | 1, _ => rw [List.getElem?_set_ne (by omega), List.getElem?_set_ne (by omega), List.getElem?_set_self (by simp; omega)]; simp
      | 2, _ => rw [List.getElem?_set_ne (by omega), List.getElem?_set_self (by simp; omega)]; simp
      | 3, _ => rw [List.getElem?_set_self (by simp; omega)]; simp
    · rw [if_neg h4, List.getElem?_eq_none (by simp; omega)]

theorem Tryz.infoNode : (Tryz.prog.info? 138).map (fun i => (i.zero, i.size, i.bytes)) = some (some (.agg #[.int .i64 0, .int .i64 0, .string ⟨#[]⟩, .slice none 0 0]), 4, 56) := by kernel_rfl

set_option maxHeartbeats 3200000 in
theorem toExNodeS_any (v : Value) (ns : List NodeD) (w : World) (hn : ns.length ≤ 1048576) (hz : ∀ x ∈ ns, x.kids.length ≤ 1048576) (h : NRow w v ns) :
    Calls Tryz.prog 119 #[v] w fun e w' => ∃ o, e = .returned o ∧ OwnN w.heap.size o ns w' ∧ Below w.heap.size w w' := by
  obtain ⟨i0, hi, hz0, hz1, hz2⟩ := info_parts Tryz.infoNode
  have HR : Hid (NRow w v ns) := h
  have HZ : Hid (∀ x ∈ ns, x.kids.length ≤ 1048576) := hz
  obtain ⟨a, cap, rfl⟩ := h.slice
  clear h hz
  go_enter Tryz.func119, Tryz.ntmps119
  go_wp2_with (at_make; refine wpList_make_full _ rfl _ _ 105 rfl w.heap.size 138 i0 _ 4 Tryz.underlying105 hi hz0 hz1 .i64 .i64 _ _ ns.length rfl rfl rfl rfl (by rw [hz2]; omega) (by unfold maxLen; omega) (Nat.le_refl _) ?_; intro w1 hown hg1)
  have HO : Hid (_) := hown
  have HB1 : Hid (Below w.heap.size w w1) := (Below.refl _ _).grown hg1 (Nat.le_refl _) (fun k h => by cases h)
  clear hown hg1
  go_loopw [4] (fun iv wr => ∃ (k : Nat) (cs : List Value) (qs : List (NodeD × Value)), iv = .int .i64 k ∧ k ≤ ns.length ∧ wr.ownsRow w.heap.size 138 4 (.slice (some ⟨w.heap.size, 0, none⟩) ns.length ns.length) ns.length cs ∧ cs.take (k * 4) = nv qs ∧ qs.map (·.1) = ns.take k ∧ (∀ q ∈ qs, OwnZ (w.heap.size + 1) q.2 q.1.kids wr) ∧ Below w.heap.size w wr) (fun iv _ => ns.length - (intOf iv).toNat)
  case atStart => exact ⟨0, _, [], rfl, Nat.zero_le _, HO.out, rfl, rfl, (fun q hq => by cases hq), HB1.out⟩
  case round =>
    obtain ⟨k, cs, qs, rfl, hk, hown, hcs, hqs, hqz, hb⟩ := hrel
    have HW : Hid (wr.ownsRow w.heap.size 138 4 (.slice (some ⟨w.heap.size, 0, none⟩) ns.length ns.length) ns.length cs) := hown
    have HS : Hid (cs.take (k * 4) = nv qs) := hcs
    have HQ : Hid (qs.map (·.1) = ns.take k) := hqs
    have HK : Hid (∀ q ∈ qs, OwnZ (w.heap.size + 1) q.2 q.1.kids wr) := hqz
    have HB : Hid (Below w.heap.size w wr) := hb
    have HRr : Hid (NRow wr (.slice a ns.length cap) ns) := HR.out.below hb
    have hgt : w.heap.size + 1 ≤ wr.heap.size := (World.ownsRow.lt hown w.heap.size rfl).2
    clear hb hcs hown HO hqs hqz
    by_cases hlt : k < ns.length
    · obtain ⟨b, off, kv, rfl, n0, n1, n2, n3, hI⟩ := HRr.out.at hlt
      have HT : Hid (_) := toExNode_any ns[k].op ns[k].num ns[k].name kv ns[k].kids wr (HZ.out _ (List.getElem_mem hlt)) hI
      obtain ⟨ak, ck, rfl⟩ := hI.slice
      clear hI
      go_wp2_with fail
      refine Calls.mono HT.out ?_
      rintro e w2 ⟨o, rfl, ho, hb2⟩
      have HO2 : Hid (OwnZ (w.heap.size + 1) o ns[k].kids w2) := ho.base hgt
      have HB2 : Hid (Below w.heap.size w w2) := HB.out.trans (hb2.mono HB.out.size)
      have HK2 : Hid (∀ q ∈ qs, OwnZ (w.heap.size + 1) q.2 q.1.kids w2) := fun q hq => (HK.out q hq).below hb2
      have O2 : w2.ownsRow w.heap.size 138 4 (.slice (some ⟨w.heap.size, 0, none⟩) ns.length ns.length) ns.length cs := own_below HW.out hb2
      obtain ⟨c0, hc0, f0⟩ := own_cell O2 (k * 4) (by omega)
      obtain ⟨c1, hc1, f1⟩ := own_cell O2 (k * 4 + 1) (by omega)
      obtain ⟨c2, hc2, f2⟩ := own_cell O2 (k * 4 + 2) (by omega)
      obtain ⟨c3, hc3, f3⟩ := own_cell O2 (k * 4 + 3) (by omega)
      have HOw : Hid (_) := O2
      obtain ⟨ao, co, rfl⟩ := ho.row.slice
      clear O2 hb2 ho HT HK HW
      go_wp2
      go_roundw
      case rel =>
        have s1 := World.ownsRow.stored HOw.out (k * 4) (.int .i64 ns[k].op)
        have s2 := s1.1.stored (k * 4 + 1) (.int .i64 ns[k].num)
        have s3 := s2.1.stored (k * 4 + 2) (.string ns[k].name)
        have s4 := s3.1.stored (k * 4 + 3) (.slice ao ns[k].kids.length co)
        have hl : k * 4 + 3 < cs.length := by rw [HOw.out.1]; omega
        have step : ∀ (W : World) (j : Nat) (u v : Value) (ks : List Int), OwnZ (w.heap.size + 1) v ks W → OwnZ (w.heap.size + 1) v ks (W.setCell ⟨w.heap.size, j, none⟩ u) := fun W j u v ks hW => World.ownsRow.kept hW (grow_set W w.heap.size j u) (off_block hW (by omega))
        refine ⟨k + 1, _, qs ++ [(ns[k], .slice ao ns[k].kids.length co)], by go_num, by omega, s4.1, ?_, ?_, fun q hq => ?_, (((HB2.out.setCell (Nat.le_refl _) _).setCell (Nat.le_refl _) _).setCell (Nat.le_refl _) _).setCell (Nat.le_refl _) _⟩
        · rw [show (k + 1) * 4 = k * 4 + 4 by omega, take_four cs (k * 4) _ _ _ _ hl, HS.out, nv_app]
          rfl
        · rw [List.map_append, HQ.out, List.take_succ_eq_append_getElem hlt]
          rfl
        · rcases List.mem_append.1 hq with hq | hq
          · exact step _ _ _ _ _ (step _ _ _ _ _ (step _ _ _ _ _ (step _ _ _ _ _ (HK2.out q hq))))
          · obtain rfl : q = (ns[k], .slice ao ns[k].kids.length co) := by simpa using hq
            exact step _ _ _ _ _ (step _ _ _ _ _ (step _ _ _ _ _ (step _ _ _ _ _ HO2.out)))
      case measure => simp [intOf]; omega
    · obtain rfl : k = ns.length := by omega
      have HF : Hid (OwnN w.heap.size (.slice (some ⟨w.heap.size, 0, none⟩) ns.length ns.length) ns wr) := by
        have h1 := HS.out
        rw [List.take_of_length_le (by rw [HW.out.1]; omega)] at h1
        have h2 := HW.out
        have h3 := HQ.out
        rw [List.take_of_length_le (Nat.le_refl _)] at h3
        have h4 : qs.length = ns.length := by rw [← h3]; simp
        refine ⟨qs, h3, ?_, fun q hq => (HK.out q hq).base (Nat.le_succ _)⟩
        rw [h4, ← h1]
        exact h2
      clear HW HS
      go_wp2
      go_ret
      exact ⟨_, rfl, HF.out, HB.out⟩

end Go.Proofs.YtofpoiccghpliaaGreatDoor
