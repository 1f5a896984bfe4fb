/- The laws' own helpers on lists of operators: how great they are, copied, compared; a list that came in as an argument. -/
import Derived.Test.YtbjkfecailnelaaOpP
import Derived.Deep.RegionHeld3
import Derived.OpenShut
namespace Go.Proofs.Ytbjkfecailnelaa
open Go.RowKit
set_option linter.unusedVariables false

theorem keep6o {W W' : World} {a b c d e f : Addr} {x y z u v p : Value} (h : W.cell? a = some x ∧ W.cell? b = some y ∧ W.cell? c = some z ∧ W.cell? d = some u ∧ W.cell? e = some v ∧ W.cell? f = some p) (hb : Below W.heap.size W W') : W'.cell? a = some x ∧ W'.cell? b = some y ∧ W'.cell? c = some z ∧ W'.cell? d = some u ∧ W'.cell? e = some v ∧ W'.cell? f = some p :=
  ⟨cell_keep h.1 hb, cell_keep h.2.1 hb, cell_keep h.2.2.1 hb, cell_keep h.2.2.2.1 hb, cell_keep h.2.2.2.2.1 hb, cell_keep h.2.2.2.2.2 hb⟩

theorem szOp_any (x : OpD) (left : Int) (w : World) (h0 : 0 ≤ left) (h1 : left ≤ 1048576) (hs : OpIn x) :
    Calls Try.prog 13 #[.agg #[.string x.sign, .int .i64 x.level, .bool x.right], .int .i64 left] w fun e w' => ∃ r : Int, e = .returned (.int .i64 r) ∧ (r = -1 ∨ (0 ≤ r ∧ r + (opTot x : Nat) = left)) ∧ Below w.heap.size w w' := by
  have hs := hs.1
  unfold StrIn maxLen at hs
  unfold opTot
  generalize x.sign = s at *
  generalize x.right = b at *
  by_cases h : left < s.size
  · have h2 : left - (s.size : Int) < 0 := by omega
    go_enter Try.func13, Try.ntmps13
    go_wp2
    go_ret
    exact ⟨_, rfl, .inl rfl, (Below.refl _ _).alloc (Nat.le_refl _) _⟩
  · go_enter Try.func13, Try.ntmps13
    go_wp2
    go_ret
    exact ⟨_, rfl, .inr ⟨by omega, by omega⟩, (Below.refl _ _).alloc (Nat.le_refl _) _⟩

set_option maxHeartbeats 1600000 in
theorem szOpS_any (v : Value) (xs : List OpD) (left : Int) (w : World) (h0 : 0 ≤ left) (h1 : left ≤ 1048576) (hin : RowInn OpIn xs) (h : Ops w v xs) :
    Calls Try.prog 4 #[v, .int .i64 left] w fun e w' => ∃ r : Int, e = .returned (.int .i64 r) ∧ (r = -1 ∨ (0 ≤ r ∧ r + (rowTot opTot xs : Nat) = left)) ∧ Below w.heap.size w w' := by
  have HR : Hid (Ops w v xs) := h
  have HIn : Hid (∀ x ∈ xs, OpIn x) := hin.2
  have hm := hin.1
  obtain ⟨a, cap, rfl⟩ := h.slice
  clear h hin
  unfold maxLen at hm
  by_cases hl : left < xs.length
  · have h2 : left - (xs.length : Int) < 0 := by omega
    go_enter Try.func4, Try.ntmps4
    go_wp2
    go_ret
    exact ⟨_, rfl, .inl rfl, Below.refl _ _⟩
  · go_enter Try.func4, Try.ntmps4
    go_wp2
    go_loopw [1, 5] (fun rv iv wr => ∃ (r : Int) (k : Nat), rv = .int .i64 r ∧ iv = .int .i64 k ∧ k ≤ xs.length ∧ 0 ≤ r ∧ r + xs.length + (((xs.take k).map opTot).sum : Nat) = left ∧ Below w.heap.size w wr) (fun _ iv _ => xs.length - (intOf iv).toNat)
    case atStart => exact ⟨_, 0, rfl, rfl, Nat.zero_le _, by omega, by simp, Below.refl _ _⟩
    case round =>
      obtain ⟨rr, k, rfl, rfl, hk, hr, ht, hb⟩ := hrel
      have HB : Hid (Below w.heap.size w wr) := hb
      have HRr : Hid (Ops wr (.slice a xs.length cap) xs) := HR.out.below hb
      clear hb
      by_cases hlt : k < xs.length
      · obtain ⟨b, off, rfl, n0, n1, n2⟩ := HRr.out.at hlt
        have hnx := rowTot_next opTot xs k hlt
        have HS : Hid (∀ W : World, _) := fun W => szOp_any xs[k] rr W hr (by omega) (HIn.out _ (List.getElem_mem hlt))
        go_wp2_with fail
        refine (HS.out _).mono ?_
        rintro e w1 ⟨r1, rfl, hr1, hb1⟩
        have HB1 : Hid (Below w.heap.size w w1) := HB.out.trans (hb1.mono HB.out.size)
        clear hb1
        rcases hr1 with rfl | ⟨hr1, hr2⟩
        · go_wp2
          go_ret
          exact ⟨_, rfl, .inl rfl, HB1.out⟩
        · have hr3 : ¬ r1 < 0 := by omega
          go_wp2
          go_roundw
          case rel => exact ⟨r1, k + 1, rfl, by go_num, by omega, hr1, by omega, HB1.out⟩
          case measure => simp [intOf]; omega
      · obtain rfl : k = xs.length := by omega
        rw [List.take_of_length_le (Nat.le_refl _)] at ht
        have HE : Hid (rr + (rowTot opTot xs : Nat) = left) := by rw [Hid, rowTot]; omega
        go_wp2
        go_ret
        exact ⟨_, rfl, .inr ⟨hr, HE.out⟩, HB.out⟩

theorem toOp_any (x : OpD) (w : World) :
    Calls Try.prog 17 #[.agg #[.string x.sign, .int .i64 x.level, .bool x.right]] w fun e w' => e = .returned (.agg #[.string x.sign, .int .i64 x.level, .bool x.right]) ∧ Below w.heap.size w w' := by
  go_enter Try.func17, Try.ntmps17
  go_wp2
  go_returns
  exact ⟨rfl, (((Below.refl _ _).alloc (Nat.le_refl _) _).alloc (by simp) _).alloc (by simp; omega) _⟩

theorem Try.infoOp : (Try.prog.info? 44).map (fun i => (i.zero, i.size, i.bytes)) = some (some (.agg #[.string ⟨#[]⟩, .int .i64 0, .bool false]), 3, 32) := by kernel_rfl
set_option maxHeartbeats 3200000 in
set_option maxRecDepth 100000 in
theorem toOpS_any (v : Value) (xs : List OpD) (w : World) (hz : rowTot opTot xs ≤ 1048576) (h : Ops w v xs) :
    Calls Try.prog 6 #[v] w fun e w' => ∃ a c, e = .returned (.slice a xs.length c) ∧ Fresh w.heap.size w' (fun W => Ops W (.slice a xs.length c) xs) ∧ Below w.heap.size w w' := by
  obtain ⟨i0, hi, hz0, hz1, hz2⟩ := info_parts Try.infoOp
  have hn := rowTot_len opTot xs
  have HR : Hid (Ops w v xs) := h
  obtain ⟨a, cap, rfl⟩ := h.slice
  clear h
  go_enter Try.func6, Try.ntmps6
  go_wp2_with (at_make; refine wpList_make_full _ rfl _ _ 29 rfl w.heap.size 44 i0 _ 3 Try.underlying29 hi hz0 hz1 .i64 .i64 _ _ xs.length rfl rfl rfl rfl (by rw [hz2]; omega) (by unfold maxLen; omega) (Nat.le_refl _) ?_; intro w1 hown hg1)
  have HO : Hid (RowTo 3 OpE 44 w.heap.size w.heap.size xs 0 w1) := rowTo_start hown
  have HB1 : Hid (Below w.heap.size w w1) := (Below.refl _ _).grown hg1 (Nat.le_refl _) (fun k h => by cases h)
  clear hown hg1
  go_loopw [4] (fun iv wr => ∃ k : Nat, iv = .int .i64 k ∧ k ≤ xs.length ∧ RowTo 3 OpE 44 w.heap.size w.heap.size xs k wr ∧ Below w.heap.size w wr) (fun iv _ => xs.length - (intOf iv).toNat)
  case atStart => exact ⟨0, rfl, Nat.zero_le _, HO.out, HB1.out⟩
  case round =>
    obtain ⟨k, rfl, hk, hrow, hb⟩ := hrel
    have HW : Hid (RowTo 3 OpE 44 w.heap.size w.heap.size xs k wr) := hrow
    have HB : Hid (Below w.heap.size w wr) := hb
    have HRr : Hid (Ops wr (.slice a xs.length cap) xs) := HR.out.below hb
    have hgt : w.heap.size + 1 ≤ wr.heap.size := by
      obtain ⟨cs, ho⟩ := hrow.own
      exact (World.ownsRow.lt ho w.heap.size rfl).2
    clear hb hrow HO HB1
    by_cases hlt : k < xs.length
    · obtain ⟨b, off, rfl, n0, n1, n2⟩ := HRr.out.at hlt
      go_wp2_with fail
      refine (toOp_any xs[k] _).mono ?_
      rintro e w2 ⟨rfl, hb2⟩
      have HB2 : Hid (Below w.heap.size w w2) := HB.out.trans (hb2.mono HB.out.size)
      have HW2 : Hid (RowTo 3 OpE 44 w.heap.size w.heap.size xs k w2) := HW.out.below hb2
      have HE2 : Hid (Fresh (w.heap.size + 1) w2 (fun W => OpE W [.string xs[k].sign, .int .i64 xs[k].level, .bool xs[k].right] xs[k])) := fun W h1 h2 => rfl
      obtain ⟨cs, O2⟩ := HW2.out.own
      obtain ⟨d0, hd0, hf0⟩ := own_cell O2 (k * 3) (by omega)
      obtain ⟨d1, hd1, hf1⟩ := own_cell O2 (k * 3 + 1) (by omega)
      obtain ⟨d2, hd2, hf2⟩ := own_cell O2 (k * 3 + 2) (by omega)
      clear O2 hb2 HW
      go_wp2
      have HN : Hid (RowTo 3 OpE 44 w.heap.size w.heap.size xs (k + 1) (setsW w2 w.heap.size (k * 3) [.string xs[k].sign, .int .i64 xs[k].level, .bool xs[k].right])) := HW2.out.next hlt rfl HE2.out
      have HB3 : Hid (Below w.heap.size w (setsW w2 w.heap.size (k * 3) [.string xs[k].sign, .int .i64 xs[k].level, .bool xs[k].right])) := setsW_below HB2.out (Nat.le_refl _) _ _
      skip
      go_roundw
      case rel => exact ⟨k + 1, by go_num, by omega, HN.out, HB3.out⟩
      case measure => simp [intOf]; omega
    · obtain rfl : k = xs.length := by omega
      have HF : Hid (Fresh w.heap.size wr (fun W => Ops W (.slice (some ⟨w.heap.size, 0, none⟩) xs.length xs.length) xs)) := fun W h1 h2 => ⟨HW.out.done W h1 h2, fun _ _ _ e => by cases e; exact Nat.le_refl _⟩
      clear HW
      go_wp2
      go_ret
      exact ⟨_, _, rfl, HF.out, HB.out⟩

theorem eqOp_same (x : OpD) (w : World) :
    Calls Try.prog 22 #[.agg #[.string x.sign, .int .i64 x.level, .bool x.right], .agg #[.string x.sign, .int .i64 x.level, .bool x.right]] w fun e w' => e = .returned (.bool true) ∧ Below w.heap.size w w' := by
  have hb := beq_yes (rfl : x.sign = x.sign)
  generalize x.sign = s at *
  generalize x.level = l at *
  generalize x.right = b at *
  go_enter Try.func22, Try.ntmps22
  cases b
  · go_wp2
    go_ret
    exact ⟨rfl, ((Below.refl _ _).alloc (Nat.le_refl _) _).alloc (by simp) _⟩
  · go_wp2
    go_ret
    exact ⟨rfl, ((Below.refl _ _).alloc (Nat.le_refl _) _).alloc (by simp) _⟩

set_option maxHeartbeats 3200000 in
theorem eqOpS_same (u v : Value) (xs : List OpD) (w : World) (hz : rowTot opTot xs ≤ 1048576) (h : Ops w u xs) (h' : Ops w v xs) :
    Calls Try.prog 9 #[u, v] w fun e w' => e = .returned (.bool true) ∧ Below w.heap.size w w' := by
  have HX : Hid (Ops w u xs) := h
  have HY : Hid (Ops w v xs) := h'
  have hn := rowTot_len opTot xs
  obtain ⟨a, cap, rfl⟩ := h.slice
  obtain ⟨a', cap', rfl⟩ := h'.slice
  clear h h'
  go_enter Try.func9, Try.ntmps9
  go_wp2
  go_loopw [5] (fun iv wr => ∃ k : Nat, iv = .int .i64 k ∧ k ≤ xs.length ∧ Below w.heap.size w wr) (fun iv _ => xs.length - (intOf iv).toNat)
  case atStart => exact ⟨0, rfl, Nat.zero_le _, Below.refl _ _⟩
  case round =>
    obtain ⟨k, rfl, hk, hb⟩ := hrel
    have HB : Hid (Below w.heap.size w wr) := hb
    have HXr : Hid (Ops wr (.slice a xs.length cap) xs) := HX.out.below hb
    have HYr : Hid (Ops wr (.slice a' xs.length cap') xs) := HY.out.below hb
    clear hb
    by_cases hlt : k < xs.length
    · obtain ⟨b, off, rfl, n0, n1, n2⟩ := HXr.out.at hlt
      obtain ⟨b', off', rfl, m0, m1, m2⟩ := HYr.out.at hlt
      have i4 : (k : Int) < (xs.length : Int) := by omega
      have HE : Hid (∀ W : World, _) := eqOp_same xs[k]
      go_wp2
      go_region_held3 (fun W => W.cell? ⟨b, off + k * 3, none⟩ = some (.string xs[k].sign) ∧ W.cell? ⟨b, off + k * 3 + 1, none⟩ = some (.int .i64 xs[k].level) ∧ W.cell? ⟨b, off + k * 3 + 2, none⟩ = some (.bool xs[k].right) ∧ W.cell? ⟨b', off' + k * 3, none⟩ = some (.string xs[k].sign) ∧ W.cell? ⟨b', off' + k * 3 + 1, none⟩ = some (.int .i64 xs[k].level) ∧ W.cell? ⟨b', off' + k * 3 + 2, none⟩ = some (.bool xs[k].right))
        ((first | exact keep6o (by assumption) hb2 | go_keep))
        ((first | (go_at_call 22; refine (HE.out _).mono ?_; rintro e w2 ⟨rfl, hb2⟩)))
      have HB2 : Hid (Below w.heap.size w w2) := HB.out.trans ((bel_of_drew hb2).mono HB.out.size)
      clear hb2
      go_wp2
      go_roundw
      case rel => exact ⟨k + 1, by go_num, by omega, HB2.out⟩
      case measure => simp [intOf]; omega
    · obtain rfl : k = xs.length := by omega
      go_wp2
      go_ret
      exact ⟨rfl, HB.out⟩

theorem openOp {H : Type} {enc : TypeId × Value → H} {w : World} {base : Nat} {held : Bool} {n : Nat} {cs : List Value} {y : DataW H × List MemPlace} (hl : cs.length = 3) (h : DataW.trod enc Try.prog w base (fun _ => true) held n 38 cs = some y) : ∃ x, OpE w cs x ∧ OpIn x := by
  obtain ⟨xs, k, hk, hxy, _, hxl, hf⟩ := DataW.trod_struct Try.underlying38 h
  match xs, hxl, cs, hl with
  | [y0, y1, y2], _, [v0, v1, v2], _ =>
    have g0 := hf 0 _ rfl
    have g1 := hf 1 _ rfl
    have g2 := hf 2 _ rfl
    have c0 : Try.prog.cellsOf 9 = 1 := by kernel_rfl
    have c1 : Try.prog.cellsOf 3 = 1 := by kernel_rfl
    have c2 : Try.prog.cellsOf 4 = 1 := by kernel_rfl
    simp [c0, c1, c2] at g0 g1 g2
    obtain ⟨s0, e0, _, hs0⟩ := DataW.trod_string Try.underlying9 g0
    obtain rfl : v0 = .string s0 := by simpa using e0
    obtain ⟨z1, e1, _, hz1⟩ := DataW.trod_int Try.underlying3 g1
    obtain rfl : v1 = .int .i64 z1 := by simpa using e1
    obtain ⟨b2, e2, _⟩ := DataW.trod_bool Try.underlying4 g2
    obtain rfl : v2 = .bool b2 := by simpa using e2
    exact ⟨⟨s0, z1, b2⟩, rfl, hs0, bounds_i64 hz1⟩
/-- A list of operators that came in as an argument. -/
theorem opsArg_of {H : Type} {enc : TypeId × Value → H} {w : World} {base : Nat} {held : Bool} {a : Option Addr} {n cap : Nat} {d : DataW H} {p : List MemPlace} (h : DataW.Trod enc Try.prog w base (fun _ => true) held 22 (.slice a n cap) d p) : ∃ xs, Ops w (.slice a n cap) xs ∧ RowInn OpIn xs := by
  obtain ⟨fuel, hf⟩ := h
  have hroom : Room13 (.slice a n cap) := by
    rcases Go.Deep.open_slice Try.underlying22 hf with ⟨h0, _⟩ | ⟨a', len, cap', m, nn, D, Pl, hv, hb, hl, _⟩
    · have e0 : Value.slice a n cap = .slice none 0 0 := (List.cons.inj h0).1
      rw [e0]; intro _ _ _ e; cases e; exact Nat.le_refl _
    · have e0 : Value.slice a n cap = .slice (some a') len cap' := (List.cons.inj hv).1
      rw [e0]; intro _ _ _ e; cases e; exact hl
  exact (rowC_of_trod (E := OpE) (In := OpIn) (sz := 3) Try.underlying22 (by kernel_rfl) (by decide) (fun n cs y hl h => openOp hl h) hf).imp fun _ h => ⟨⟨h.1, hroom⟩, h.2⟩

end Go.Proofs.Ytbjkfecailnelaa
