/- What the verifier's draw of places answers: twelve numbers from 0 to 9999, in memory of its own. -/
import Derived.Test.YtkojkicfibmjdaaDraw3
namespace Go.Proofs.Ytkojkicfibmjdaa
open Go.RowKit

theorem Try.infoInt : (Try.prog.info? 3).map (fun i => (i.zero, i.size, i.bytes)) = some (some (.int .i64 0), 1, 8) := by kernel_rfl

/-- Integers as they lie in memory. -/
def iv (ys : List Int) : List Value := ys.map (.int .i64 ·)
theorem iv_len (ys : List Int) : (iv ys).length = ys.length := by simp [iv]
theorem iv_snoc (ys : List Int) (y : Int) : iv (ys ++ [y]) = iv ys ++ [.int .i64 y] := by simp [iv]

/-- What an append to a list of the draw's own does to the world. -/
theorem went_append {W : World} {v : Value} {n g k : Nat} {w wr w1 w2 : World} {out : Value} {e : TypeId} {size : Nat} {xs : List Value} (hgw : g < w.heap.size)
    (hown : wr.ownsRow w.heap.size e size out k xs) (h0 : Went W v n g w wr) (h1 : Went W v n g wr w1) {o : Obj}
    (hgrow : (w1.alloc o).grownBy w2 out.ownBlock) : Went W v n g w w2 := by
  have hw := went_trans h0 h1
  have hgs := hgrow.size
  have hgl : g < w1.heap.size := hw.1.lt
  have hrow : ∀ j, out.ownBlock = some j → w.heap.size ≤ j := fun j hj => (hown.lt j hj).1
  have hblk : ∀ j, j < w1.heap.size → some j ≠ out.ownBlock → w2.heap[j]? = w1.heap[j]? := fun j hj hr => (hgrow.block j (by simp; omega) hr).trans (Below.heap_alloc w1 o j hj)
  refine ⟨?_, ?_⟩
  · refine hw.1.moved ?_ (hblk g hgl (fun e => by have := hrow g e.symm; omega))
    have hW := hw.1.1
    refine ⟨hgrow.os.trans hW.os, hgrow.tape.trans hW.tape, hgrow.output.trans hW.output, ?_, fun j hj => ?_⟩
    · have := hW.size; simp at hgs; omega
    · have hs := hW.size
      have hw1 := hw.2.size
      have hWg := hw.1.2.1
      exact (hblk j (by omega) (fun e => by have := hrow j e.symm; omega)).trans (hW.block j hj)
  · refine ⟨hgrow.os.trans hw.2.os, hgrow.tape.trans hw.2.tape, hgrow.output.trans hw.2.output, ?_, fun j hj hr => ?_⟩
    · have := hw.2.size; simp at hgs; omega
    · have hw1 := hw.2.size
      exact (hblk j (by omega) (fun e => by have := hrow j e.symm; omega)).trans (hw.2.block j hj hr)

/-- What holds at each round's head. -/
def PlRel (W : World) (v : Value) (n g : Nat) (w : World) (out i : Value) (wr : World) : Prop :=
  ∃ (k : Nat) (ys : List Int), i = .int .i64 k ∧ ys.length = k ∧ k ≤ 12 ∧ (∀ y ∈ ys, 0 ≤ y ∧ y < 10000) ∧ wr.ownsRow w.heap.size 3 1 out k (iv ys) ∧ Went W v n g w wr

theorem plRel_step {W : World} {v vv : Value} {n g k : Nat} {w wr w1 w2 : World} {x : Int} {out : Value} {ys : List Int} (hl : ys.length = k) (hkm : k < 12) (hys : ∀ y ∈ ys, 0 ≤ y ∧ y < 10000) (hx0 : 0 ≤ x) (hx1 : x < 10000) (hgw : g < w.heap.size)
    (hown : wr.ownsRow w.heap.size 3 1 out k (iv ys)) (h0 : Went W v n g w wr) (h1 : Went W v n g wr w1) {o : Obj}
    (hown2 : w2.ownsRow w.heap.size 3 1 vv (k + 1) (iv ys ++ [.int .i64 x])) (hgrow : (w1.alloc o).grownBy w2 out.ownBlock) :
    PlRel W v n g w vv (.int .i64 ((k : Int) + 1)) w2 := by
  refine ⟨k + 1, ys ++ [x], by simp, by rw [List.length_append, List.length_singleton]; omega, by omega, ?_, by rw [iv_snoc]; exact hown2, went_append hgw hown h0 h1 hgrow⟩
  intro y hy
  rcases List.mem_append.1 hy with h | h
  · exact hys y h
  · obtain rfl : y = x := by simpa using h
    exact ⟨hx0, hx1⟩

/-- The drawn places: a list that the draw owns. -/
def Places (B : Nat) (p : Value) (w : World) : Prop := ∃ ys : List Int, ys.length = 12 ∧ (∀ y ∈ ys, 0 ≤ y ∧ y < 10000) ∧ w.ownsRow B 3 1 p 12 (iv ys)

theorem places_below {B : Nat} {p : Value} {w w' : World} (h : Places B p w) (hb : Below w.heap.size w w') : Places B p w' := by
  obtain ⟨ys, h1, h2, h3, h4⟩ := h
  refine ⟨ys, h1, h2, h3, ?_⟩
  rcases h4 with h | ⟨g, cap, cur, rfl, hg, hc, r⟩
  · exact .inl h
  · refine .inr ⟨g, cap, cur, rfl, hg, ?_, r⟩
    rw [hb.block g (Array.getElem?_eq_some_iff.1 hc).1]
    exact hc

/-- The places' list: its block and its numbers. -/
theorem Places.at {B : Nat} {p : Value} {w : World} (h : Places B p w) : ∃ (g cap : Nat) (f : Nat → Int), p = .slice (some ⟨g, 0, none⟩) 12 cap ∧ B ≤ g ∧ 12 ≤ cap ∧ (∀ i, i < 12 → 0 ≤ f i ∧ f i < 10000 ∧ w.cell? ⟨g, i, none⟩ = some (.int .i64 (f i))) := by
  obtain ⟨ys, h1, h2, hown⟩ := h
  obtain ⟨g, cap, rfl, hg, _⟩ := hown.form (by omega)
  have hcap : 12 ≤ cap := by
    rcases hown.2 with ⟨_, h⟩ | ⟨_, _, _, e, _, _, hh, _⟩
    · omega
    · cases e; exact hh
  refine ⟨g, cap, fun i => ys[i]?.getD 0, rfl, hg, hcap, fun i hi => ?_⟩
  have hy : ys[i]? = some ys[i] := List.getElem?_eq_getElem (by omega)
  have hm := h2 ys[i] (List.getElem_mem _)
  show 0 ≤ ys[i]?.getD 0 ∧ ys[i]?.getD 0 < 10000 ∧ w.cell? ⟨g, i, none⟩ = some (.int .i64 (ys[i]?.getD 0))
  rw [hy]
  refine ⟨hm.1, hm.2, ?_⟩
  have := hown.cells (g := g) rfl i (.int .i64 ys[i]) (by simp [iv, hy])
  rw [Addr.add_lit] at this
  simpa using this

set_option maxHeartbeats 1600000 in
set_option maxRecDepth 100000 in
theorem drawPlaces_any (W : World) (v : Value) (n : Nat) (w : World) (hn : n ≤ 1000000000000) (hcode : CodeRow W v n) (hb : Below W.heap.size W w) :
    Calls Try.prog 7 #[v] w fun e w' => ∃ p, e = .returned p ∧ Places w.heap.size p w' ∧ Below w.heap.size w w' := by
  obtain ⟨i0, hi, hz0, hz1, hz2⟩ := info_parts Try.infoInt
  have HC : Hid (CodeRow W v n) := hcode
  have HB : Hid (Below W.heap.size W w) := hb
  clear hcode hb
  go_enter Try.func7, Try.ntmps7
  go_wp2_with fail
  refine (new_any W v n _ hn HC.out HB.out).mono ?_
  rintro e w1 ⟨g, rfl, hc1, hb1, hg⟩
  have H1 : Hid (Cur W v n g w1) := hc1
  have B1 : Hid (Below w.heap.size w w1) := hb1
  clear hc1 hb1
  go_wp2_with fail
  refine (byte_went W v n g _ hn HC.out H1.out).mono ?_
  rintro e w2 ⟨x, rfl, -, hw2⟩
  have H2 : Hid (Cur W v n g w2) := hw2.1
  have B2 : Hid (Below w.heap.size w w2) := B1.out.trans (went_bel hw2 B1.out.size hg)
  have hgw : g < w2.heap.size := hw2.1.lt
  clear hw2
  go_wp2
  go_loopw [4, 5] (fun out i wr => PlRel W v n g w2 out i wr) (fun _ i _ => 12 - (intOf i).toNat)
  case atStart =>
    refine ⟨0, [], rfl, rfl, by omega, by simp, World.ownsRow_made _ _ _ (Nat.le_refl _) (by decide) rfl, ?_, ?_⟩
    · exact H2.out.moved (H2.out.1.alloc H2.out.1.size _) (Below.heap_alloc w2 _ g hgw)
    · exact World.grownBy_alloc w2 _ _
  case round =>
    obtain ⟨k, ys, rfl, hl, hk, hys, hown, hwent⟩ := hrel
    have H0 : Hid (Went W v n g w2 wr) := hwent
    have HL : Hid (ys.length = k) := hl
    have HY : Hid (∀ y ∈ ys, 0 ≤ y ∧ y < 10000) := hys
    clear hwent hl hys
    by_cases hlt : k < 12
    · go_wp2_with fail
      refine (below_any W v n g 10000 _ hn HC.out H0.out.1 (by omega) (by omega)).mono ?_
      rintro e w3 ⟨x, rfl, ⟨x0, x1⟩, hw3⟩
      have H3 : Hid (Went W v n g wr w3) := hw3
      clear hw3
      have hown1 : w3.ownsRow w2.heap.size 3 1 u4 k (iv ys) := hown.kept H3.out.2 (by
        rcases hown.2 with ⟨rfl, _⟩ | ⟨gg, _, _, rfl, hgg, _⟩
        · exact .inl rfl
        · right
          intro e
          have h9 : gg = g := by simpa [Value.ownBlock] using e
          omega)
      go_wp2_with (at_builtin; refine wpList_append_own _ rfl _ _ 24 rfl w2.heap.size 3 i0 (.int .i64 0) 1 8 Try.underlying24 hi hz0 hz1 hz2 rfl (by decide) _ _ _ rfl (hown1.alloc _) ⟨w3.heap.size, 0, none⟩ 1 1 [.int .i64 x] rfl rfl (one_at _ _ _) (one_cell _ _) (by unfold maxLen; omega) (by omega) (by have h8 := H0.out.2.size; have h9 := H3.out.2.size; simp; omega) ?_)
      intro v' w4 hown2 hgrow _
      have R := plRel_step HL.out hlt HY.out x0 x1 hgw hown H0.out H3.out hown2 hgrow
      clear hown2 hgrow hown hown1
      go_wp2
      go_roundw
      case rel => exact R
      case measure => simp [intOf]; omega
    · obtain rfl : k = 12 := by omega
      have PR : Hid (Places w.heap.size u4 wr) := ⟨ys, HL.out, HY.out, hown.1, by
        rcases hown.2 with h | ⟨gg, cap, cur, h1, h2, h3⟩
        · exact .inl h
        · exact .inr ⟨gg, cap, cur, h1, Nat.le_trans B2.out.size h2, h3⟩⟩
      clear hown
      go_wp2
      go_ret
      exact ⟨_, rfl, PR.out, B2.out.trans (went_bel H0.out B2.out.size hg)⟩


end Go.Proofs.Ytkojkicfibmjdaa
