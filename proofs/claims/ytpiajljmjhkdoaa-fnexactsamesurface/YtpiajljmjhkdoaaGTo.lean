/- The laws' helpers on grammars: copied into memory of their own (printed by mk/gkit.py). -/
import Derived.Test.YtpiajljmjhkdoaaGData
import Derived.Test.YtpiajljmjhkdoaaXKit3
namespace Go.Proofs.Ytpiajljmjhkdoaa
open Go.RowKit

theorem fresh_sRow {B : Nat} {v : Value} {xs : List ByteArray} {w : World} (h : OwnB B v xs w) : Fresh B w fun W => SRow W v xs := by
  intro W h1 h2
  obtain ⟨a, cap, rfl, hcap, hh⟩ := h.row
  refine ⟨a, cap, rfl, hcap, fun h0 => ?_⟩
  obtain ⟨b, off, rfl, hlt, hc⟩ := hh h0
  have hb : B ≤ b := by
    rcases h.2 with ⟨h', _⟩ | ⟨g, cap', cur, h', hg, _⟩
    · cases h'
    · cases h'; exact hg
  exact ⟨b, off, rfl, Nat.lt_of_lt_of_le hlt h1, fun i hi => (World.cell?_of_block (h2 b hb hlt)).trans (hc i hi)⟩
theorem fresh_iRow {B : Nat} {v : Value} {ks : List Int} {w : World} (h : OwnZ B v ks w) : Fresh B w fun W => IRow W v ks := by
  intro W h1 h2
  obtain ⟨a, cap, rfl, hcap, hh⟩ := h.row
  refine ⟨a, cap, rfl, hcap, fun h0 => ?_⟩
  obtain ⟨b, off, rfl, hlt, hc⟩ := hh h0
  have hb : B ≤ b := by
    rcases h.2 with ⟨h', _⟩ | ⟨g, cap', cur, h', hg, _⟩
    · cases h'
    · cases h'; exact hg
  exact ⟨b, off, rfl, Nat.lt_of_lt_of_le hlt h1, fun i hi => (World.cell?_of_block (h2 b hb hlt)).trans (hc i hi)⟩
theorem fresh_nRow {B : Nat} {v : Value} {ns : List NodeD} {w : World} (h : OwnN B v ns w) : Fresh B w fun W => NRow W v ns := by
  intro W h1 h2
  obtain ⟨qs, rfl, ho, hk⟩ := h
  have hl : (qs.map (·.1)).length = qs.length := by simp
  rcases ho.2 with ⟨rfl, hz⟩ | ⟨g, cap, cur, rfl, hB, hc, hle, hm, hs, ht⟩
  · exact ⟨none, 0, by rw [hl, hz], fun _ => rfl, fun h0 => by rw [hl] at h0; omega⟩
  · have hg := (World.ownsRow.lt ho g rfl).2
    refine ⟨some ⟨g, 0, none⟩, cap, by rw [hl], fun h => (by cases h), fun _ => ⟨g, 0, rfl, Nat.lt_of_lt_of_le hg h1, fun i hi => ?_⟩⟩
    have key : ∀ j u, (nv qs)[j]? = some u → W.cell? ⟨g, 0 + j, none⟩ = some u := fun j u hu => by
      have := World.ownsRow.cells ho (g := g) rfl j u hu
      rw [Addr.add_lit] at this
      exact (World.cell?_of_block (h2 g hB hg)).trans this
    rw [hl] at hi
    have := nv_at qs i hi
    refine ⟨qs[i].2, ?_⟩
    rw [List.getElem_map]
    exact ⟨key _ _ this.1, by rw [Nat.add_assoc]; exact key _ _ this.2.1, by rw [Nat.add_assoc]; exact key _ _ this.2.2.1, by rw [Nat.add_assoc]; exact key _ _ this.2.2.2, fresh_iRow (hk _ (List.getElem_mem hi)) W h1 h2⟩

theorem gtoStringS (v : Value) (xs : List ByteArray) (w : World) (hz : rowTot ByteArray.size xs ≤ 1048576) (h : SRow w v xs) :
    Calls Try.prog 37 #[v] w fun e w' => ∃ a c, e = .returned (.slice a xs.length c) ∧ Fresh w.heap.size w' (fun W => SRow W (.slice a xs.length c) xs) ∧ Below w.heap.size w w' := by
  refine (toStringS_any v xs w (by have := rowTot_len ByteArray.size xs; omega) h).mono ?_
  rintro e w' ⟨o, rfl, ho, hb⟩
  obtain ⟨a, c, rfl⟩ := ho.row.slice
  exact ⟨a, c, rfl, fresh_sRow ho, hb⟩
theorem gtoExpr (v : Value) (x : List NodeD) (w : World) (hz : exprTot x ≤ 1048576) (h : NRow w v x) :
    Calls Try.prog 44 #[.agg #[v]] w fun e w' => ∃ a0 c0, e = .returned (.agg #[.slice a0 x.length c0]) ∧ Fresh w.heap.size w' (fun W => NRow W (.slice a0 x.length c0) x) ∧ Below w.heap.size w w' := by
  have e : exprTot x = x.length + (x.map fun y => y.name.size + y.kids.length).sum := rfl
  refine (toExpr_any v x w (by omega) (fun y hy => ?_) h).mono ?_
  · have : y.name.size + y.kids.length ≤ (x.map fun y => y.name.size + y.kids.length).sum := sum_mem (fun y : NodeD => y.name.size + y.kids.length) hy
    omega
  · rintro e w' ⟨o, rfl, ho, hb⟩
    obtain ⟨a, c, rfl⟩ := ho.row.slice
    exact ⟨a, c, rfl, fresh_nRow ho, hb⟩

/-- A block that is written into. -/
theorem block_set {w : World} {b j : Nat} {vs : Array Value} {t : TypeId} {u : Value} (h : w.heap[b]? = some (.cells vs t)) : (w.setCell ⟨b, j, none⟩ u).heap[b]? = some (.cells (vs.setIfInBounds j u) t) := by
  simp only [World.setCell]
  rw [Array.getElem?_modify, if_pos rfl, h]
  rfl
theorem block_other {w : World} {b b' j : Nat} {u : Value} (hne : b' ≠ b) : (w.setCell ⟨b', j, none⟩ u).heap[b]? = w.heap[b]? := by
  simp only [World.setCell]
  rw [Array.getElem?_modify, if_neg hne]
theorem cell_block {w : World} {b j : Nat} {vs : Array Value} {t : TypeId} {u : Value} (h : w.heap[b]? = some (.cells vs t)) (hj : vs[j]? = some u) : w.cell? ⟨b, j, none⟩ = some u := by
  rw [cell_of_row _ _ j _ _ _ h]
  exact hj
theorem frozen_block {w : World} {b j : Nat} {vs : Array Value} {t : TypeId} (h : w.heap[b]? = some (.cells vs t)) : w.frozen? ⟨b, j, none⟩ = false := by
  unfold World.frozen?
  rw [h]
  rfl
theorem box_three (w : World) (x y z : Array Value) (s t : TypeId) {B : Nat} (hB : w.heap.size = B) :
    (((w.alloc (.cells x s)).alloc (.cells y t)).alloc (.cells z t)).heap[B]? = some (.cells x s) ∧ (((w.alloc (.cells x s)).alloc (.cells y t)).alloc (.cells z t)).heap[B + 1]? = some (.cells y t) ∧ (((w.alloc (.cells x s)).alloc (.cells y t)).alloc (.cells z t)).heap[B + 2]? = some (.cells z t) := by
  subst hB
  have e1 : (w.alloc (.cells x s)).heap.size = w.heap.size + 1 := by simp
  have e2 : ((w.alloc (.cells x s)).alloc (.cells y t)).heap.size = w.heap.size + 2 := by simp
  refine ⟨?_, ?_, ?_⟩
  · rw [Below.heap_alloc _ _ _ (by rw [e2]; omega), Below.heap_alloc _ _ _ (by rw [e1]; omega)]
    exact heap_alloc_new w _
  · rw [Below.heap_alloc _ _ _ (by rw [e2]; omega)]
    have := heap_alloc_new (w.alloc (.cells x s)) (.cells y t)
    rwa [e1] at this
  · have := heap_alloc_new ((w.alloc (.cells x s)).alloc (.cells y t)) (.cells z t)
    rwa [e2] at this

theorem Try.infoExpr : (Try.prog.info? 62).map (fun i => (i.zero, i.size, i.bytes)) = some (some (.agg #[.slice none 0 0]), 1, 24) := by kernel_rfl
set_option maxHeartbeats 3200000 in
set_option maxRecDepth 100000 in
theorem gtoExprS (v : Value) (xs : List (List NodeD)) (w : World) (hz : rowTot exprTot xs ≤ 1048576) (h : RowC 1 ExprE w v xs) :
    Calls Try.prog 35 #[v] w fun e w' => ∃ a c, e = .returned (.slice a xs.length c) ∧ Fresh w.heap.size w' (fun W => RowC 1 ExprE W (.slice a xs.length c) xs) ∧ Below w.heap.size w w' := by
  obtain ⟨i0, hi, hz0, hz1, hz2⟩ := info_parts Try.infoExpr
  have hn := rowTot_len exprTot xs
  have HR : Hid (RowC 1 ExprE w v xs) := h
  obtain ⟨a, cap, rfl⟩ := h.slice
  clear h
  go_enter Try.func35, Try.ntmps35
  go_wp2_with (at_make; refine wpList_make_full _ rfl _ _ 36 rfl w.heap.size 62 i0 _ 1 Try.underlying36 hi hz0 hz1 .i64 .i64 _ _ xs.length rfl rfl rfl rfl (by rw [hz2]; omega) (by unfold maxLen; omega) (Nat.le_refl _) ?_; intro w1 hown hg1)
  have HO : Hid (RowTo 1 ExprE 62 w.heap.size w.heap.size xs 0 w1) := rowTo_start hown
  have HB1 : Hid (Below w.heap.size w w1) := (Below.refl _ _).grown hg1 (Nat.le_refl _) (fun k h => by cases h)
  clear hown hg1
  go_loopw [4] (fun iv wr => ∃ k : Nat, iv = .int .i64 k ∧ k ≤ xs.length ∧ RowTo 1 ExprE 62 w.heap.size w.heap.size xs k wr ∧ Below w.heap.size w wr) (fun iv _ => xs.length - (intOf iv).toNat)
  case atStart => exact ⟨0, rfl, Nat.zero_le _, HO.out, HB1.out⟩
  case round =>
    obtain ⟨k, rfl, hk, hrow, hb⟩ := hrel
    have HW : Hid (RowTo 1 ExprE 62 w.heap.size w.heap.size xs k wr) := hrow
    have HB : Hid (Below w.heap.size w wr) := hb
    have HRr : Hid (RowC 1 ExprE wr (.slice a xs.length cap) xs) := RowC.below ExprE_stable HR.out hb
    have hgt : w.heap.size + 1 ≤ wr.heap.size := by
      obtain ⟨cs, ho⟩ := hrow.own
      exact (World.ownsRow.lt ho w.heap.size rfl).2
    clear hb hrow HO HB1
    by_cases hlt : k < xs.length
    · obtain ⟨b, off, vs, rfl, _, hc, hE⟩ := HRr.out.at hlt
      obtain ⟨r0, rfl, hh0⟩ := hE
      have n0 : wr.cell? ⟨b, off + k, none⟩ = some (r0) := by have h := hc 0 (by simp); rw [Nat.mul_one] at h; exact h
      have HT : Hid (∀ W, Below wr.heap.size wr W → _) := fun W hW => gtoExpr r0 xs[k] W (by have := rowTot_mem exprTot (List.getElem_mem hlt); omega) (hh0.below hW)
      obtain ⟨aa0, ca0, rfl⟩ := hh0.slice
      clear hc hh0
      go_wp2_with fail
      refine (HT.out _ (Below.refl _ _)).mono ?_
      rintro e w2 ⟨o0, c0, rfl, f0, hb2⟩
      have HB2 : Hid (Below w.heap.size w w2) := HB.out.trans (hb2.mono HB.out.size)
      have HW2 : Hid (RowTo 1 ExprE 62 w.heap.size w.heap.size xs k w2) := HW.out.below hb2
      have HE2 : Hid (Fresh (w.heap.size + 1) w2 (fun W => ExprE W [.slice o0 xs[k].length c0] xs[k])) := fun W h1 h2 => ⟨_, rfl, (f0.base hgt) W h1 h2⟩
      obtain ⟨cs, O2⟩ := HW2.out.own
      obtain ⟨d0, hd0, hf0⟩ := own_cell O2 (k) (by omega)
      clear O2 hb2 HT HW f0
      go_wp2
      have HN : Hid (RowTo 1 ExprE 62 w.heap.size w.heap.size xs (k + 1) (setsW w2 w.heap.size (k * 1) [.slice o0 xs[k].length c0])) := HW2.out.next hlt rfl HE2.out
      have HB3 : Hid (Below w.heap.size w (setsW w2 w.heap.size (k * 1) [.slice o0 xs[k].length c0])) := setsW_below HB2.out (Nat.le_refl _) _ _
      simp only [Nat.mul_one] at HN HB3
      go_roundw
      case rel => exact ⟨k + 1, by go_num, by omega, HN.out, HB3.out⟩
      case measure => simp [intOf]; omega
    · obtain rfl : k = xs.length := by omega
      have HF : Hid (Fresh w.heap.size wr (fun W => RowC 1 ExprE W (.slice (some ⟨w.heap.size, 0, none⟩) xs.length xs.length) xs)) := HW.out.done
      clear HW
      go_wp2
      go_ret
      exact ⟨_, _, rfl, HF.out, HB.out⟩








end Go.Proofs.Ytpiajljmjhkdoaa
