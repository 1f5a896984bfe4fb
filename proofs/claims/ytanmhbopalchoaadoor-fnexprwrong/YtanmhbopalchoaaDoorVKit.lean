/- The laws' own helpers on lists of names with numbers: how great they are, copied, compared. -/
import Derived.Test.YtanmhbopalchoaaDoorEnvOk
import Derived.Handy
import Derived.OwnWalk
import Derived.Laws.OwnMore
namespace Go.Proofs.YtanmhbopalchoaaDoor
open Go.RowKit

theorem beq_yes {a b : ByteArray} (h : a = b) : (a.toList == b.toList) = true := by rw [bytes_beq]; simpa using h
theorem beq_no {a b : ByteArray} (h : ¬ a = b) : (a.toList == b.toList) = false := by rw [bytes_beq]; simpa using h

/-- The cells of a list of names with numbers. -/
def vv (xs : List VarD) : List Value := xs.flatMap fun x => [.string x.1, .int .i64 x.2]
theorem vv_len (xs : List VarD) : (vv xs).length = xs.length * 2 := by
  induction xs with
  | nil => rfl
  | cons x xs ih => rw [vv, List.flatMap_cons, List.length_append, ← vv, ih]; simp; omega
theorem vv_app (xs ys : List VarD) : vv (xs ++ ys) = vv xs ++ vv ys := by simp [vv]
theorem vv_one (x : VarD) : vv [x] = [.string x.1, .int .i64 x.2] := rfl
theorem vv_at : ∀ (xs : List VarD) (i : Nat) (h : i < xs.length), (vv xs)[i * 2]? = some (.string xs[i].1) ∧ (vv xs)[i * 2 + 1]? = some (.int .i64 xs[i].2)
  | x :: xs, 0, _ => ⟨rfl, rfl⟩
  | x :: xs, i + 1, h => by
    have := vv_at xs i (by simpa using h)
    have e : vv (x :: xs) = [.string x.1, .int .i64 x.2] ++ vv xs := rfl
    rw [e, List.getElem?_append_right (by simp; omega), List.getElem?_append_right (by simp; omega)]
    have e1 : (i + 1) * 2 - 2 = i * 2 := by omega
    have e2 : (i + 1) * 2 + 1 - 2 = i * 2 + 1 := by omega
    simpa [e1, e2] using this

/-- A list that the call owns. -/
def OwnV (B : Nat) (v : Value) (xs : List VarD) (w : World) : Prop := w.ownsRow B 76 2 v xs.length (vv xs)
theorem OwnV.row {B : Nat} {v : Value} {xs : List VarD} {w : World} (h : OwnV B v xs w) : VRow w v xs := by
  rcases h.2 with ⟨rfl, hz⟩ | ⟨g, cap, cur, rfl, hB, hc, hle, hm, hs, ht⟩
  · exact ⟨none, 0, by rw [hz], fun _ => rfl, fun h0 => by omega⟩
  · refine ⟨some ⟨g, 0, none⟩, cap, rfl, fun h => (by cases h), fun _ => ⟨g, 0, rfl, (Array.getElem?_eq_some_iff.1 hc).1, fun i hi => ?_⟩⟩
    have key : ∀ j u, (vv xs)[j]? = some u → w.cell? ⟨g, 0 + j, none⟩ = some u := fun j u hu => by
      have := World.ownsRow.cells h (g := g) rfl j u hu
      rwa [Addr.add_lit] at this
    have := vv_at xs i hi
    exact ⟨key _ _ this.1, by rw [Nat.add_assoc]; exact key _ _ this.2⟩
theorem OwnV.below {B : Nat} {v : Value} {xs : List VarD} {w w' : World} (h : OwnV B v xs w) (hb : Below w.heap.size w w') : OwnV B v xs w' := by
  refine ⟨h.1, ?_⟩
  rcases h.2 with h | ⟨g, cap, cur, rfl, hg, hc, r⟩
  · exact .inl h
  · refine .inr ⟨g, cap, cur, rfl, hg, ?_, r⟩
    rw [hb.block g (Array.getElem?_eq_some_iff.1 hc).1]
    exact hc

def totS (xs : List VarD) : Nat := (xs.map fun x => x.1.size).sum
theorem totS_next (xs : List VarD) (k : Nat) (h : k < xs.length) : totS (xs.take (k + 1)) = totS (xs.take k) + xs[k].1.size := by
  rw [List.take_succ_eq_append_getElem h]
  simp only [totS, List.map_append, List.sum_append, List.map_cons, List.map_nil, List.sum_cons, List.sum_nil, Nat.add_zero]
theorem totS_mem {xs : List VarD} {x : VarD} (h : x ∈ xs) : x.1.size ≤ totS xs := by
  induction xs with
  | nil => cases h
  | cons y xs ih =>
    simp only [totS, List.map_cons, List.sum_cons]
    rcases List.mem_cons.1 h with rfl | h
    · omega
    · have := ih h; simp only [totS] at this; omega

theorem szVar_any (s : ByteArray) (n left : Int) (w : World) (h0 : 0 ≤ left) (h1 : left ≤ 1048576) (hs : s.size ≤ maxLen) :
    Calls Tryd.prog 54 #[.agg #[.string s, .int .i64 n], .int .i64 left] w fun e w' => ∃ r : Int, e = .returned (.int .i64 r) ∧ (r = -1 ∨ (0 ≤ r ∧ r + s.size = left)) ∧ Below w.heap.size w w' := by
  unfold maxLen at hs
  by_cases h : left < s.size
  · have h2 : left - (s.size : Int) < 0 := by omega
    go_enter Tryd.func54, Tryd.ntmps54
    go_wp2
    go_ret
    exact ⟨_, rfl, .inl rfl, (Below.refl _ _).alloc (Nat.le_refl _) _⟩
  · go_enter Tryd.func54, Tryd.ntmps54
    go_wp2
    go_ret
    exact ⟨_, rfl, .inr ⟨by omega, by omega⟩, (Below.refl _ _).alloc (Nat.le_refl _) _⟩

set_option maxHeartbeats 800000 in
theorem szVarS_any (v : Value) (xs : List VarD) (left : Int) (w : World) (h0 : 0 ≤ left) (h1 : left ≤ 1048576) (hm : xs.length ≤ maxLen) (hz : ∀ x ∈ xs, x.1.size ≤ maxLen) (h : VRow w v xs) :
    Calls Tryd.prog 28 #[v, .int .i64 left] w fun e w' => ∃ r : Int, e = .returned (.int .i64 r) ∧ (r = -1 ∨ (0 ≤ r ∧ r + xs.length + totS xs = left)) ∧ Below w.heap.size w w' := by
  have HR : Hid (VRow w v xs) := h
  have HZ : Hid (∀ x ∈ xs, x.1.size ≤ maxLen) := hz
  obtain ⟨a, cap, rfl⟩ := h.slice
  clear h hz
  unfold maxLen at hm
  by_cases hl : left < xs.length
  · have h2 : left - (xs.length : Int) < 0 := by omega
    go_enter Tryd.func28, Tryd.ntmps28
    go_wp2
    go_ret
    exact ⟨_, rfl, .inl rfl, Below.refl _ _⟩
  · go_enter Tryd.func28, Tryd.ntmps28
    go_wp2
    go_loopw [1, 5] (fun rv iv wr => ∃ (r : Int) (k : Nat), rv = .int .i64 r ∧ iv = .int .i64 k ∧ k ≤ xs.length ∧ 0 ≤ r ∧ r + xs.length + totS (xs.take k) = left ∧ Below w.heap.size w wr) (fun _ iv _ => xs.length - (intOf iv).toNat)
    case atStart => exact ⟨_, 0, rfl, rfl, Nat.zero_le _, by omega, by simp [totS], Below.refl _ _⟩
    case round =>
      obtain ⟨r, k, rfl, rfl, hk, hr, ht, hb⟩ := hrel
      have HB : Hid (Below w.heap.size w wr) := hb
      have HRr : Hid (VRow wr (.slice a xs.length cap) xs) := HR.out.below hb
      clear hb
      by_cases hlt : k < xs.length
      · obtain ⟨b, off, rfl, hc1, hc2⟩ := HRr.out.at hlt
        have hnx := totS_next xs k hlt
        go_wp2_with fail
        refine (szVar_any xs[k].1 xs[k].2 r _ hr (by omega) (HZ.out _ (List.getElem_mem _))).mono ?_
        rintro e w1 ⟨r1, rfl, hr1, hb1⟩
        have HB1 : Hid (Below w.heap.size w w1) := HB.out.trans (hb1.mono HB.out.size)
        clear hb1
        rcases hr1 with rfl | ⟨hr1, hr2⟩
        · go_wp2
          go_ret
          exact ⟨_, rfl, .inl rfl, HB1.out⟩
        · go_wp2
          go_roundw
          case rel => exact ⟨r1, k + 1, rfl, by go_num, by omega, hr1, by omega, HB1.out⟩
          case measure => simp [intOf]; omega
      · obtain rfl : k = xs.length := by omega
        rw [List.take_of_length_le (Nat.le_refl _)] at ht
        go_wp2
        go_ret
        exact ⟨_, rfl, .inr ⟨hr, ht⟩, HB.out⟩

theorem toVar_any (s : ByteArray) (n : Int) (w : World) :
    Calls Tryd.prog 55 #[.agg #[.string s, .int .i64 n]] w fun e w' => e = .returned (.agg #[.string s, .int .i64 n]) ∧ Below w.heap.size w w' := by
  go_enter Tryd.func55, Tryd.ntmps55
  go_wp2
  go_returns
  exact ⟨rfl, (((Below.refl _ _).alloc (Nat.le_refl _) _).alloc (by simp) _).alloc (by simp; omega) _⟩

theorem eqVar_any (s t : ByteArray) (n m : Int) (w : World) :
    Calls Tryd.prog 56 #[.agg #[.string s, .int .i64 n], .agg #[.string t, .int .i64 m]] w fun e w' => e = .returned (.bool (decide (s = t ∧ n = m))) ∧ Below w.heap.size w w' := by
  by_cases h : s = t
  · have hb := beq_yes h
    by_cases h2 : n = m
    · have hd : decide (s = t ∧ n = m) = true := by simp [h, h2]
      rw [hd]
      subst h2
      go_enter Tryd.func56, Tryd.ntmps56
      go_wp2
      go_ret
      exact ⟨rfl, ((Below.refl _ _).alloc (Nat.le_refl _) _).alloc (by simp) _⟩
    · have hd : decide (s = t ∧ n = m) = false := by simp [h2]
      rw [hd]
      go_enter Tryd.func56, Tryd.ntmps56
      go_wp2
      go_ret
      exact ⟨rfl, ((Below.refl _ _).alloc (Nat.le_refl _) _).alloc (by simp) _⟩
  · have hb := beq_no h
    have hd : decide (s = t ∧ n = m) = false := by simp [h]
    rw [hd]
    go_enter Tryd.func56, Tryd.ntmps56
    go_wp2
    go_ret
    exact ⟨rfl, ((Below.refl _ _).alloc (Nat.le_refl _) _).alloc (by simp) _⟩

theorem eqVar_is (s t : ByteArray) (n m : Int) (b : Bool) (h : decide (s = t ∧ n = m) = b) (w : World) :
    Calls Tryd.prog 56 #[.agg #[.string s, .int .i64 n], .agg #[.string t, .int .i64 m]] w fun e w' => e = .returned (.bool b) ∧ Below w.heap.size w w' := by
  rw [← h]; exact eqVar_any s t n m w

theorem Tryd.infoVar : (Tryd.prog.info? 76).map (fun i => (i.zero, i.size, i.bytes)) = some (some (.agg #[.string ⟨#[]⟩, .int .i64 0]), 2, 24) := by kernel_rfl

/-- What is owned is owned behind whatever makes new memory alone. -/
theorem own_below {B : Nat} {e : TypeId} {size : Nat} {v : Value} {n : Nat} {xs : List Value} {w w' : World} (h : w.ownsRow B e size v n xs) (hb : Below w.heap.size w w') : w'.ownsRow B e size v n xs := by
  refine ⟨h.1, ?_⟩
  rcases h.2 with h | ⟨g, cap, cur, rfl, hg, hc, r⟩
  · exact .inl h
  · refine .inr ⟨g, cap, cur, rfl, hg, ?_, r⟩
    rw [hb.block g (Array.getElem?_eq_some_iff.1 hc).1]
    exact hc
theorem own_cell {B : Nat} {e : TypeId} {size : Nat} {g n cap : Nat} {xs : List Value} {w : World} (h : w.ownsRow B e size (.slice (some ⟨g, 0, none⟩) n cap) n xs) (j : Nat) (hj : j < n * size) :
    ∃ c, w.cell? ⟨g, j, none⟩ = some c ∧ w.frozen? ⟨g, j, none⟩ = false := by
  rcases h.2 with ⟨h', _⟩ | ⟨g', cap', cur, h', hb, hg, _⟩
  · cases h'
  · cases h'
    have hx : j < xs.length := by rw [h.1]; exact hj
    refine ⟨xs[j], ?_, ?_⟩
    · have := h.cells (g := g) rfl j xs[j] (List.getElem?_eq_getElem hx)
      rwa [Addr.add_lit, Nat.zero_add] at this
    · unfold World.frozen?
      rw [hg]
      simp

theorem take_two (cs : List Value) (j : Nat) (a b : Value) (h : j + 1 < cs.length) : ((cs.set j a).set (j + 1) b).take (j + 2) = cs.take j ++ [a, b] := by
  apply List.ext_getElem?
  intro i
  rw [List.getElem?_take]
  by_cases h1 : i < j
  · rw [if_pos (by omega), List.getElem?_set_ne (by omega), List.getElem?_set_ne (by omega), List.getElem?_append_left (by simp; omega), List.getElem?_take, if_pos h1]
  · have hl : (cs.take j).length = j := by simp; omega
    rw [List.getElem?_append_right (by omega), hl]
    by_cases h2 : i = j
    · subst h2
      rw [if_pos (by omega), List.getElem?_set_ne (by omega), List.getElem?_set_self (by omega)]
      simp
    · by_cases h3 : i = j + 1
      · subst h3
        rw [if_pos (by omega), List.getElem?_set_self (by simpa using h)]
        simp
      · rw [if_neg (by omega), List.getElem?_eq_none (by simp; omega)]

set_option maxHeartbeats 800000 in
theorem toVarS_any (v : Value) (xs : List VarD) (w : World) (hm : xs.length ≤ 1048576) (h : VRow w v xs) :
    Calls Tryd.prog 29 #[v] w fun e w' => ∃ o, e = .returned o ∧ OwnV w.heap.size o xs w' ∧ Below w.heap.size w w' := by
  obtain ⟨i0, hi, hz0, hz1, hz2⟩ := info_parts Tryd.infoVar
  have HR : Hid (VRow w v xs) := h
  obtain ⟨a, cap, rfl⟩ := h.slice
  clear h
  go_enter Tryd.func29, Tryd.ntmps29
  go_wp2_with (at_make; refine wpList_make_full _ rfl _ _ 28 rfl w.heap.size 76 i0 _ 2 Tryd.underlying28 hi hz0 hz1 .i64 .i64 _ _ xs.length rfl rfl rfl rfl (by rw [hz2]; omega) (by unfold maxLen; omega) (Nat.le_refl _) ?_; intro w1 hown hg1)
  have HO : Hid (_) := hown
  have HB1 : Hid (Below w.heap.size w w1) := (Below.refl _ _).grown hg1 (Nat.le_refl _) (fun k h => by cases h)
  clear hown hg1
  go_loopw [4] (fun iv wr => ∃ (k : Nat) (cs : List Value), iv = .int .i64 k ∧ k ≤ xs.length ∧ wr.ownsRow w.heap.size 76 2 (.slice (some ⟨w.heap.size, 0, none⟩) xs.length xs.length) xs.length cs ∧ cs.take (k * 2) = vv (xs.take k) ∧ Below w.heap.size w wr) (fun iv _ => xs.length - (intOf iv).toNat)
  case atStart => exact ⟨0, _, rfl, Nat.zero_le _, HO.out, rfl, HB1.out⟩
  case round =>
    obtain ⟨k, cs, rfl, hk, hown, hcs, hb⟩ := hrel
    have HW : Hid (wr.ownsRow w.heap.size 76 2 (.slice (some ⟨w.heap.size, 0, none⟩) xs.length xs.length) xs.length cs) := hown
    have HS : Hid (cs.take (k * 2) = vv (xs.take k)) := hcs
    have HB : Hid (Below w.heap.size w wr) := hb
    have HRr : Hid (VRow wr (.slice a xs.length cap) xs) := HR.out.below hb
    clear hb hcs hown HO
    by_cases hlt : k < xs.length
    · obtain ⟨b, off, rfl, hc1, hc2⟩ := HRr.out.at hlt
      go_wp2_with fail
      refine (toVar_any xs[k].1 xs[k].2 _).mono ?_
      rintro e w2 ⟨rfl, hb2⟩
      have HW2 := HW.out
      have HB2 : Hid (Below w.heap.size w w2) := HB.out.trans (hb2.mono HB.out.size)
      have O2 : w2.ownsRow w.heap.size 76 2 (.slice (some ⟨w.heap.size, 0, none⟩) xs.length xs.length) xs.length cs := own_below HW.out hb2
      obtain ⟨c0, hc0, f0⟩ := own_cell O2 (k * 2) (by omega)
      obtain ⟨c1, hc1', f1⟩ := own_cell O2 (k * 2 + 1) (by omega)
      have HO2 : Hid (_) := O2
      clear O2 HW2 hb2
      go_wp2
      go_roundw
      case rel =>
        have s1 := World.ownsRow.stored HO2.out (k * 2) (.string xs[k].1)
        have s2 := s1.1.stored (k * 2 + 1) (.int .i64 xs[k].2)
        have hl : k * 2 + 1 < cs.length := by rw [HO2.out.1]; omega
        refine ⟨k + 1, _, by go_num, by omega, s2.1, ?_, (HB2.out.setCell (Nat.le_refl _) _).setCell (Nat.le_refl _) _⟩
        rw [show (k + 1) * 2 = k * 2 + 2 by omega, take_two cs (k * 2) _ _ hl, HS.out, List.take_succ_eq_append_getElem hlt, vv_app, vv_one]
      case measure => simp [intOf]; omega
    · obtain rfl : k = xs.length := by omega
      have HF : Hid (OwnV w.heap.size (.slice (some ⟨w.heap.size, 0, none⟩) xs.length xs.length) xs wr) := by
        have h1 := HS.out
        rw [List.take_of_length_le (Nat.le_of_eq HW.out.1), List.take_of_length_le (Nat.le_refl _)] at h1
        have h2 := HW.out
        rw [h1] at h2
        exact h2
      clear HW HS
      go_wp2
      go_ret
      exact ⟨_, rfl, HF.out, HB.out⟩

theorem cell_keep {W W' : World} {a : Addr} {x : Value} (h : W.cell? a = some x) (hb : Below W.heap.size W W') : W'.cell? a = some x :=
  (World.cell?_of_block (hb.block _ (World.block_lt_of_cell? W a h))).trans h
theorem cells_keep4 {W W' : World} {a b c d : Addr} {x y z u : Value} (h : W.cell? a = some x ∧ W.cell? b = some y ∧ W.cell? c = some z ∧ W.cell? d = some u) (hb : Below W.heap.size W W') :
    W'.cell? a = some x ∧ W'.cell? b = some y ∧ W'.cell? c = some z ∧ W'.cell? d = some u :=
  ⟨cell_keep h.1 hb, cell_keep h.2.1 hb, cell_keep h.2.2.1 hb, cell_keep h.2.2.2 hb⟩

set_option maxHeartbeats 1600000 in
theorem eqVarS_any (u v : Value) (xs ys : List VarD) (w : World) (hx : xs.length ≤ 2097153) (h : VRow w u xs) (h' : VRow w v ys) :
    Calls Tryd.prog 30 #[u, v] w fun e w' => e = .returned (.bool (decide (xs = ys))) ∧ Below w.heap.size w w' := by
  have HX : Hid (VRow w u xs) := h
  have HY : Hid (VRow w v ys) := h'
  obtain ⟨a, cap, rfl⟩ := h.slice
  obtain ⟨a', cap', rfl⟩ := h'.slice
  clear h h'
  by_cases hl : xs.length = ys.length
  · have HL : Hid (xs.length = ys.length) := hl
    rw [← hl] at HY ⊢
    clear hl
    go_enter Tryd.func30, Tryd.ntmps30
    go_wp2
    go_loopw [5] (fun iv wr => ∃ k : Nat, iv = .int .i64 k ∧ k ≤ xs.length ∧ xs.take k = ys.take k ∧ Below w.heap.size w wr) (fun iv _ => xs.length - (intOf iv).toNat)
    case atStart => exact ⟨0, rfl, Nat.zero_le _, rfl, Below.refl _ _⟩
    case round =>
      obtain ⟨k, rfl, hk, htk, hb⟩ := hrel
      have HB : Hid (Below w.heap.size w wr) := hb
      have HTk : Hid (xs.take k = ys.take k) := htk
      have HXr : Hid (VRow wr (.slice a xs.length cap) xs) := HX.out.below hb
      have HYr : Hid (VRow wr (.slice a' xs.length cap') ys) := HY.out.below hb
      clear hb htk
      by_cases hlt : k < xs.length
      · have hlt' : k < ys.length := by have := HL.out; omega
        obtain ⟨b, off, rfl, hc1, hc2⟩ := VRow.at HXr.out hlt
        obtain ⟨b', off', rfl, hc3, hc4⟩ := VRow.at HYr.out hlt'
        have i4 : (k : Int) < (xs.length : Int) := by omega
        by_cases hek : xs[k] = ys[k]
        · have HE : Hid (∀ W, _) := eqVar_is xs[k].1 ys[k].1 xs[k].2 ys[k].2 true (by simp [hek])
          have HN : Hid (xs.take (k + 1) = ys.take (k + 1)) := by
            have := HTk.out
            rw [Hid, List.take_succ_eq_append_getElem hlt, List.take_succ_eq_append_getElem hlt', this, hek]
          clear hek
          go_wp2
          go_region_held3 (fun W => W.cell? ⟨b, off + k * 2, none⟩ = some (.string xs[k].1) ∧ W.cell? ⟨b, off + k * 2 + 1, none⟩ = some (.int .i64 xs[k].2) ∧ W.cell? ⟨b', off' + k * 2, none⟩ = some (.string ys[k].1) ∧ W.cell? ⟨b', off' + k * 2 + 1, none⟩ = some (.int .i64 ys[k].2)) ((first | go_keep | exact cells_keep4 (by assumption) (by assumption)))
            ((first | (go_at_call 56; refine (HE.out _).mono ?_; rintro e w2 ⟨rfl, hb2⟩)))
          have HB2 : Hid (Below w.heap.size w w2) := HB.out.trans ((bel_of_drew hb2).mono HB.out.size)
          clear hb2
          go_wp2
          go_roundw
          case rel => exact ⟨k + 1, by go_num, by omega, HN.out, HB2.out⟩
          case measure => simp [intOf]; omega
        · have HE : Hid (∀ W, _) := eqVar_is xs[k].1 ys[k].1 xs[k].2 ys[k].2 false (by simp only [decide_eq_false_iff_not]; exact fun h => hek (Prod.ext h.1 h.2))
          have HN : Hid (decide (xs = ys) = false) := by
            simp only [Hid, decide_eq_false_iff_not]
            intro h
            exact hek (by simp only [h])
          clear hek
          go_wp2
          go_region_held3 (fun W => W.cell? ⟨b, off + k * 2, none⟩ = some (.string xs[k].1) ∧ W.cell? ⟨b, off + k * 2 + 1, none⟩ = some (.int .i64 xs[k].2) ∧ W.cell? ⟨b', off' + k * 2, none⟩ = some (.string ys[k].1) ∧ W.cell? ⟨b', off' + k * 2 + 1, none⟩ = some (.int .i64 ys[k].2)) ((first | go_keep | exact cells_keep4 (by assumption) (by assumption)))
            ((first | (go_at_call 56; refine (HE.out _).mono ?_; rintro e w2 ⟨rfl, hb2⟩)))
          have HB2 : Hid (Below w.heap.size w w2) := HB.out.trans ((bel_of_drew hb2).mono HB.out.size)
          clear hb2
          go_wp2
          go_ret
          rw [HN.out]
          exact ⟨rfl, HB2.out⟩
      · obtain rfl : k = xs.length := by omega
        have HN : Hid (decide (xs = ys) = true) := by
          have h1 := HTk.out
          rw [List.take_of_length_le (Nat.le_refl _), List.take_of_length_le (Nat.le_of_eq HL.out.symm)] at h1
          simp [Hid, h1]
        go_wp2
        go_ret
        rw [HN.out]
        exact ⟨rfl, HB.out⟩
  · have HN : Hid (decide (xs = ys) = false) := by
      simp only [Hid, decide_eq_false_iff_not]
      intro h
      exact hl (by rw [h])
    have hl2 : ¬ (xs.length : Int) = (ys.length : Int) := by omega
    clear hl
    go_enter Tryd.func30, Tryd.ntmps30
    go_wp2
    go_ret
    rw [HN.out]
    exact ⟨rfl, Below.refl _ _⟩

end Go.Proofs.YtanmhbopalchoaaDoor
