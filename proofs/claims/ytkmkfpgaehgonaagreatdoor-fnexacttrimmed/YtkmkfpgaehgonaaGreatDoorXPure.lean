/- Lists of texts: as they lie in memory, as arguments, and the laws' helpers on them. -/
/- Grammars as they lie in memory, and opened as arguments (printed by mk/gkit.py). -/
/- Expressions: the plain mathematics: which are right, what they are worth. -/
import Derived.Test.YtkmkfpgaehgonaaGreatDoorMark
import Derived.Deep.Strs
import Derived.OpenShut
namespace Go.Proofs.YtkmkfpgaehgonaaGreatDoor
open Go.RowKit

def SRow (w : World) (v : Value) (ss : List ByteArray) : Prop :=
  ∃ a cap, v = .slice a ss.length cap ∧ (a = none → cap = 0) ∧ (0 < ss.length → ∃ b off, a = some ⟨b, off, none⟩ ∧ b < w.heap.size ∧
    ∀ i (h : i < ss.length), w.cell? ⟨b, off + i, none⟩ = some (.string ss[i]))
theorem SRow.slice {w : World} {v : Value} {ss : List ByteArray} (h : SRow w v ss) : ∃ a cap, v = .slice a ss.length cap := by
  obtain ⟨a, cap, rfl, _⟩ := h
  exact ⟨a, cap, rfl⟩
theorem SRow.below {w w' : World} {v : Value} {ss : List ByteArray} (h : SRow w v ss) (hb : Below w.heap.size w w') : SRow w' v ss := by
  obtain ⟨a, cap, rfl, hcap, hh⟩ := h
  refine ⟨a, cap, rfl, hcap, fun h0 => ?_⟩
  obtain ⟨b, off, rfl, hlt, hc⟩ := hh h0
  exact ⟨b, off, rfl, Nat.lt_of_lt_of_le hlt hb.size, fun i hi => (World.cell?_of_block (hb.block b hlt)).trans (hc i hi)⟩
theorem SRow.at {w : World} {a : Option Addr} {n cap k : Nat} {ss : List ByteArray} (h : SRow w (.slice a n cap) ss) (hk : k < ss.length) :
    ∃ b off, a = some ⟨b, off, none⟩ ∧ w.cell? ⟨b, off + k, none⟩ = some (.string ss[k]) := by
  obtain ⟨a', cap', e, _, hh⟩ := h
  cases e
  obtain ⟨b, off, rfl, _, hc⟩ := hh (by omega)
  exact ⟨b, off, rfl, hc k hk⟩

def sb (ss : List ByteArray) : List Value := ss.map .string
theorem sb_len (ss : List ByteArray) : (sb ss).length = ss.length := by simp [sb]
theorem sb_at (ss : List ByteArray) (i : Nat) (h : i < ss.length) : (sb ss)[i]? = some (.string ss[i]) := by simp [sb, h]
def OwnB (B : Nat) (v : Value) (ss : List ByteArray) (w : World) : Prop := w.ownsRow B 9 1 v ss.length (sb ss)
theorem OwnB.row {B : Nat} {v : Value} {ss : List ByteArray} {w : World} (h : OwnB B v ss w) : SRow w v ss := by
  rcases h.2 with ⟨rfl, hz⟩ | ⟨g, cap, cur, rfl, hB, hc, hle, hm, hs, ht⟩
  · exact ⟨none, 0, by rw [hz], fun _ => rfl, fun h0 => by omega⟩
  · refine ⟨some ⟨g, 0, none⟩, cap, rfl, fun h => (by cases h), fun _ => ⟨g, 0, rfl, (Array.getElem?_eq_some_iff.1 hc).1, fun i hi => ?_⟩⟩
    have := World.ownsRow.cells h (g := g) rfl i _ (sb_at ss i hi)
    rwa [Addr.add_lit] at this
theorem OwnB.below {B : Nat} {v : Value} {ss : List ByteArray} {w w' : World} (h : OwnB B v ss w) (hb : Below w.heap.size w w') : OwnB B v ss w' := own_below h hb
theorem OwnB.kept {B : Nat} {v : Value} {ss : List ByteArray} {w w' : World} {row : Option Nat} (h : OwnB B v ss w) (hg : w.grownBy w' row) (hne : ∀ k, v.ownBlock = some k → row ≠ some k) : OwnB B v ss w' :=
  World.ownsRow.kept h hg (by
    cases hv : v.ownBlock with
    | none => exact .inl rfl
    | some k => exact .inr (fun e => hne k hv e.symm))

/-- An argument: its list, within the machine's bounds. -/
def SArg (w : World) (v : Value) (ss : List ByteArray) : Prop := SRow w v ss ∧ ss.length ≤ maxLen ∧ ∀ s ∈ ss, s.size ≤ maxLen
theorem sArg_of_trod {H : Type} {enc : TypeId × Value → H} {P : Program} {w : World} {base : Nat} {held : Bool} {t e : TypeId} {fuel : Nat} {v : Value} {x : DataW H × List MemPlace} (ht : P.underlying t = some (.slice e)) (he : P.underlying e = some .string)
    (ce : P.cellsOf e = 1) (h : DataW.trod enc P w base (fun _ => true) held fuel t [v] = some x) : ∃ ss, SArg w v ss := by
  rcases Go.Deep.open_strs ht he ce h with ⟨h0, _⟩ | ⟨a, len, cap, m, Sx, hv, hb, hl, hm, hmm, _, hc⟩
  · obtain rfl : v = .slice none 0 0 := by simpa using h0
    exact ⟨[], ⟨none, 0, rfl, fun _ => rfl, fun h => absurd h (by simp)⟩, by simp, by simp⟩
  · obtain rfl : v = .slice (some a) len cap := by simpa using hv
    have hml : len ≤ m := by rw [hmm, if_pos rfl]; exact hl
    have hxl : ((List.range len).map Sx).length = len := by simp
    refine ⟨(List.range len).map Sx, ⟨some a, cap, by rw [hxl], fun h => (by cases h), fun h0 => ?_⟩, by rw [hxl]; omega, fun x hx => ?_⟩
    · obtain ⟨b, off, spot⟩ := a
      rw [hxl] at h0
      have h1 := (hc 0 (by omega)).1
      have hspot : spot = none := by simpa [Addr.add] using World.cell?_spot h1
      subst hspot
      refine ⟨b, off, rfl, ?_, fun i hi => ?_⟩
      · have := World.block_lt_of_cell? w _ h1
        simpa [Addr.add] using this
      · rw [hxl] at hi
        have h2 := (hc i (by omega)).1
        rw [Addr.add_lit] at h2
        simpa using h2
    · obtain ⟨i, hi, rfl⟩ := List.mem_map.1 hx
      exact (hc i (by have := List.mem_range.1 hi; omega)).2

def totB (ss : List ByteArray) : Nat := (ss.map fun s => s.size).sum
theorem totB_next (ss : List ByteArray) (k : Nat) (h : k < ss.length) : totB (ss.take (k + 1)) = totB (ss.take k) + ss[k].size := by
  rw [List.take_succ_eq_append_getElem h]
  simp only [totB, List.map_append, List.sum_append, List.map_cons, List.map_nil, List.sum_cons, List.sum_nil, Nat.add_zero]
theorem totB_mem {ss : List ByteArray} {s : ByteArray} (h : s ∈ ss) : s.size ≤ totB ss := by
  induction ss with
  | nil => cases h
  | cons y ss ih =>
    simp only [totB, List.map_cons, List.sum_cons]
    rcases List.mem_cons.1 h with rfl | h
    · omega
    · have := ih h; simp only [totB] at this; omega

set_option maxHeartbeats 800000 in
theorem szStringS_any (v : Value) (ss : List ByteArray) (left : Int) (w : World) (h0 : 0 ≤ left) (h1 : left ≤ 1048576) (hm : ss.length ≤ maxLen) (hz : ∀ s ∈ ss, s.size ≤ maxLen) (h : SRow w v ss) :
    Calls Tryz.prog 49 #[v, .int .i64 left] w fun e w' => ∃ r : Int, e = .returned (.int .i64 r) ∧ (r = -1 ∨ (0 ≤ r ∧ r + ss.length + totB ss = left)) ∧ w' = w := by
  have HR : Hid (SRow w v ss) := h
  have HZ : Hid (∀ s ∈ ss, s.size ≤ maxLen) := hz
  obtain ⟨a, cap, rfl⟩ := h.slice
  clear h hz
  unfold maxLen at hm
  by_cases hl : left < ss.length
  · have h2 : left - (ss.length : Int) < 0 := by omega
    go_enter Tryz.func49, Tryz.ntmps49
    go_wp2
    go_ret
    exact ⟨_, rfl, .inl rfl, rfl⟩
  · go_enter Tryz.func49, Tryz.ntmps49
    go_wp2
    go_loop [1, 5] (fun rv iv => ∃ (r : Int) (k : Nat), rv = .int .i64 r ∧ iv = .int .i64 k ∧ k ≤ ss.length ∧ 0 ≤ r ∧ r + ss.length + totB (ss.take k) = left) (fun _ iv => ss.length - (intOf iv).toNat)
    case atStart => exact ⟨_, 0, rfl, rfl, Nat.zero_le _, by omega, by simp [totB]⟩
    case round =>
      obtain ⟨r, k, rfl, rfl, hk, hr, ht⟩ := hrel
      by_cases hlt : k < ss.length
      · obtain ⟨b, off, rfl, hc1⟩ := HR.out.at hlt
        have hnx := totB_next ss k hlt
        have hsz := HZ.out _ (List.getElem_mem hlt)
        unfold maxLen at hsz
        by_cases hrl : r < ss[k].size
        · have h2 : r - (ss[k].size : Int) < 0 := by omega
          go_wp2
          go_ret
          exact ⟨_, rfl, .inl rfl, rfl⟩
        · go_wp2
          go_round
          case rel => exact ⟨_, k + 1, rfl, by go_num, by omega, by omega, by omega⟩
          case measure => simp [intOf]; omega
      · obtain rfl : k = ss.length := by omega
        rw [List.take_of_length_le (Nat.le_refl _)] at ht
        go_wp2
        go_ret
        exact ⟨_, rfl, .inr ⟨hr, ht⟩, rfl⟩

theorem Tryz.infoStr : (Tryz.prog.info? 9).map (fun i => (i.zero, i.size, i.bytes)) = some (some (.string ⟨#[]⟩), 1, 16) := by kernel_rfl

theorem take_one1 (cs : List Value) (j : Nat) (a : Value) (h : j < cs.length) : (cs.set j a).take (j + 1) = cs.take j ++ [a] := by
  rw [List.take_succ_eq_append_getElem (by simpa using h), List.take_set_of_le (Nat.le_refl _)]
  simp

set_option maxHeartbeats 800000 in
theorem toStringS_any (v : Value) (ss : List ByteArray) (w : World) (hm : ss.length ≤ 1048576) (h : SRow w v ss) :
    Calls Tryz.prog 54 #[v] w fun e w' => ∃ o, e = .returned o ∧ OwnB w.heap.size o ss w' ∧ Below w.heap.size w w' := by
  obtain ⟨i0, hi, hz0, hz1, hz2⟩ := info_parts Tryz.infoStr
  have HR : Hid (SRow w v ss) := h
  obtain ⟨a, cap, rfl⟩ := h.slice
  clear h
  go_enter Tryz.func54, Tryz.ntmps54
  go_wp2_with (at_make; refine wpList_make_full _ rfl _ _ 37 rfl w.heap.size 9 i0 _ 1 Tryz.underlying37 hi hz0 hz1 .i64 .i64 _ _ ss.length rfl rfl rfl rfl (by rw [hz2]; omega) (by unfold maxLen; omega) (Nat.le_refl _) ?_; intro w1 hown hg1)
  have HO : Hid (_) := hown
  have HB1 : Hid (Below w.heap.size w w1) := (Below.refl _ _).grown hg1 (Nat.le_refl _) (fun k h => by cases h)
  clear hown hg1
  go_loopw [4] (fun iv wr => ∃ (k : Nat) (cs : List Value), iv = .int .i64 k ∧ k ≤ ss.length ∧ wr.ownsRow w.heap.size 9 1 (.slice (some ⟨w.heap.size, 0, none⟩) ss.length ss.length) ss.length cs ∧ cs.take k = sb (ss.take k) ∧ Below w.heap.size w wr) (fun iv _ => ss.length - (intOf iv).toNat)
  case atStart => exact ⟨0, _, rfl, Nat.zero_le _, HO.out, rfl, HB1.out⟩
  case round =>
    obtain ⟨k, cs, rfl, hk, hown, hcs, hb⟩ := hrel
    have HW : Hid (wr.ownsRow w.heap.size 9 1 (.slice (some ⟨w.heap.size, 0, none⟩) ss.length ss.length) ss.length cs) := hown
    have HS : Hid (cs.take k = sb (ss.take k)) := hcs
    have HB : Hid (Below w.heap.size w wr) := hb
    have HRr : Hid (SRow wr (.slice a ss.length cap) ss) := HR.out.below hb
    clear hb hcs hown HO
    by_cases hlt : k < ss.length
    · obtain ⟨b, off, rfl, hc1⟩ := HRr.out.at hlt
      obtain ⟨c0, hc0, f0⟩ := own_cell HW.out k (by omega)
      go_wp2
      go_roundw
      case rel =>
        have s1 := World.ownsRow.stored HW.out k (.string ss[k])
        have hl : k < cs.length := by rw [HW.out.1]; omega
        refine ⟨k + 1, _, by go_num, by omega, s1.1, ?_, HB.out.setCell (Nat.le_refl _) _⟩
        rw [take_one1 cs k _ hl, HS.out, List.take_succ_eq_append_getElem hlt]
        simp only [sb, List.map_append, List.map_cons, List.map_nil]
      case measure => simp [intOf]; omega
    · obtain rfl : k = ss.length := by omega
      have HF : Hid (OwnB w.heap.size (.slice (some ⟨w.heap.size, 0, none⟩) ss.length ss.length) ss wr) := by
        have h1 := HS.out
        rw [List.take_of_length_le (by rw [HW.out.1]; omega), List.take_of_length_le (Nat.le_refl _)] at h1
        have h2 := HW.out
        rw [h1] at h2
        exact h2
      clear HW HS
      go_wp2
      go_ret
      exact ⟨_, rfl, HF.out, HB.out⟩

set_option maxHeartbeats 1600000 in
theorem eqStringS_same (u v : Value) (ss : List ByteArray) (w : World) (hx : ss.length ≤ 2097153) (h : SRow w u ss) (h' : SRow w v ss) :
    Calls Tryz.prog 69 #[u, v] w fun e w' => e = .returned (.bool true) ∧ ∃ q, w' = w.drewN q := by
  have HX : Hid (SRow w u ss) := h
  have HY : Hid (SRow w v ss) := h'
  obtain ⟨a, cap, rfl⟩ := h.slice
  obtain ⟨a', cap', rfl⟩ := h'.slice
  clear h h'
  go_enter Tryz.func69, Tryz.ntmps69
  go_wp2
  go_loopw [5] (fun iv wr => ∃ k q : Nat, iv = .int .i64 k ∧ k ≤ ss.length ∧ wr = w.drewN q) (fun iv _ => ss.length - (intOf iv).toNat)
  case atStart => exact ⟨0, 0, rfl, Nat.zero_le _, rfl⟩
  case round =>
    obtain ⟨k, q, rfl, hk, hwr⟩ := hrel
    have HW : Hid (wr = w.drewN q) := hwr
    have HXr : Hid (SRow wr (.slice a ss.length cap) ss) := by rw [HW.out]; exact HX.out.below (bel_drewN (Below.refl _ _) q)
    have HYr : Hid (SRow wr (.slice a' ss.length cap') ss) := by rw [HW.out]; exact HY.out.below (bel_drewN (Below.refl _ _) q)
    clear hwr
    by_cases hlt : k < ss.length
    · obtain ⟨b, off, rfl, hc1⟩ := HXr.out.at hlt
      obtain ⟨b', off', rfl, hc2⟩ := HYr.out.at hlt
      have i4 : (k : Int) < (ss.length : Int) := by omega
      have ht : (ss[k].toList == ss[k].toList) = true := by simp
      go_wp2
      go_quiet (fail)
      go_wp2
      go_roundw
      case rel => exact ⟨k + 1, q + nq, by go_num, by omega, by rw [HW.out, World.drewN_drewN]⟩
      case measure => simp [intOf]; omega
    · obtain rfl : k = ss.length := by omega
      go_wp2
      go_ret
      exact ⟨rfl, q, HW.out⟩

set_option maxHeartbeats 800000 in
theorem markStringS_any (B : Nat) (v : Value) (ss : List ByteArray) (k0 : Nat) (w : World) (hn : ss.length ≤ 10000000) (h0 : 0 < k0) (h1 : k0 ≤ 100000000) (hown : OwnB B v ss w) :
    Calls Tryz.prog 45 #[v, .int .i64 k0] w fun e w' => e = .returned (.int .i64 ((k0 + ss.length : Nat) : Int)) ∧ w.grownBy w' v.ownBlock := by
  by_cases hz : ss.length = 0
  · obtain rfl : ss = [] := List.eq_nil_of_length_eq_zero hz
    obtain ⟨a, cap, rfl⟩ := hown.row.slice
    clear hown hz
    simp only [List.length_nil]
    go_enter Tryz.func45, Tryz.ntmps45
    go_wp2
    go_loop [1, 5] (fun kv iv => kv = .int .i64 k0 ∧ iv = .int .i64 0) (fun _ _ => 0)
    case atStart => exact ⟨rfl, rfl⟩
    case round =>
      obtain ⟨rfl, rfl⟩ := hrel
      go_wp2
      go_ret
      exact ⟨rfl, World.grownBy.refl _ _⟩
  · obtain ⟨g, cap, rfl, hBg, hgl⟩ := World.ownsRow.form hown (by omega)
    have HO : Hid (OwnB B (.slice (some ⟨g, 0, none⟩) ss.length cap) ss w) := hown
    clear hown
    go_enter Tryz.func45, Tryz.ntmps45
    go_wp2
    go_loopw [1, 5] (fun kv iv wr => ∃ (i : Nat) (cs : List Value), kv = .int .i64 ((k0 + i : Nat) : Int) ∧ iv = .int .i64 i ∧ i ≤ ss.length ∧ wr.ownsRow B 9 1 (.slice (some ⟨g, 0, none⟩) ss.length cap) ss.length cs ∧ w.grownBy wr (some g)) (fun _ iv _ => ss.length - (intOf iv).toNat)
    case atStart => exact ⟨0, _, rfl, rfl, Nat.zero_le _, HO.out, World.grownBy.refl _ _⟩
    case round =>
      obtain ⟨i, cs, rfl, rfl, hi, hown, hgr⟩ := hrel
      have HW : Hid (wr.ownsRow B 9 1 (.slice (some ⟨g, 0, none⟩) ss.length cap) ss.length cs) := hown
      have HG : Hid (w.grownBy wr (some g)) := hgr
      clear hown hgr
      by_cases hlt : i < ss.length
      · go_wp2_with fail
        refine (mark_any (k0 + i) _ (by omega) (by omega)).mono ?_
        rintro e w1 ⟨rfl, hb1⟩
        have HO1 : Hid (w1.ownsRow B 9 1 (.slice (some ⟨g, 0, none⟩) ss.length cap) ss.length cs) := own_below HW.out hb1
        obtain ⟨c0, hc0, f0⟩ := own_cell HO1.out i (by omega)
        have HG1 : Hid (w.grownBy w1 (some g)) := ⟨hb1.os.trans HG.out.os, hb1.tape.trans HG.out.tape, hb1.output.trans HG.out.output, Nat.le_trans HG.out.size hb1.size, fun j hj hr => (hb1.block j (Nat.lt_of_lt_of_le hj HG.out.size)).trans (HG.out.block j hj hr)⟩
        clear hb1
        generalize str (markB (k0 + i)) = T at *
        go_wp2
        go_roundw
        case rel =>
          have s1 := World.ownsRow.stored HO1.out i (.string T)
          have t1 := s1.2
          exact ⟨i + 1, _, congrArg (Value.int .i64) (by omega), by go_num, by omega, s1.1, ⟨t1.os.trans HG1.out.os, t1.tape.trans HG1.out.tape, t1.output.trans HG1.out.output, Nat.le_trans HG1.out.size t1.size, fun j hj hr => (t1.block j (Nat.lt_of_lt_of_le hj HG1.out.size) hr).trans (HG1.out.block j hj hr)⟩⟩
        case measure => simp [intOf]; omega
      · obtain rfl : i = ss.length := by omega
        go_wp2
        go_ret
        exact ⟨rfl, HG.out⟩

end Go.Proofs.YtkmkfpgaehgonaaGreatDoor

namespace Go.Proofs.YtkmkfpgaehgonaaGreatDoor
open Go.RowKit

def rowTot {α : Type} (f : α → Nat) (xs : List α) : Nat := xs.length + (xs.map f).sum
theorem rowTot_next {α : Type} (f : α → Nat) (xs : List α) (k : Nat) (h : k < xs.length) : ((xs.take (k + 1)).map f).sum = ((xs.take k).map f).sum + f xs[k] := by
  rw [List.take_succ_eq_append_getElem h, List.map_append, List.sum_append, List.map_cons, List.map_nil, List.sum_cons, List.sum_nil, Nat.add_zero]
theorem rowTot_len {α : Type} (f : α → Nat) (xs : List α) : xs.length ≤ rowTot f xs := Nat.le_add_right _ _
theorem sum_mem {α : Type} (f : α → Nat) {xs : List α} {x : α} (h : x ∈ xs) : f x ≤ (xs.map f).sum := by
  induction xs with
  | nil => cases h
  | cons y xs ih =>
    rw [List.map_cons, List.sum_cons]
    rcases List.mem_cons.1 h with rfl | h
    · omega
    · have := ih h; omega
theorem rowTot_mem {α : Type} (f : α → Nat) {xs : List α} {x : α} (h : x ∈ xs) : f x ≤ rowTot f xs := Nat.le_trans (sum_mem f h) (Nat.le_add_left _ _)
def RowInn {α : Type} (P : α → Prop) (xs : List α) : Prop := xs.length ≤ maxLen ∧ ∀ x ∈ xs, P x
def StrIn (s : ByteArray) : Prop := s.size ≤ maxLen
theorem box_at (w : World) (vs : Array Value) (t : TypeId) (j : Nat) (u : Value) (h : vs[j]? = some u) : (w.alloc (.cells vs t)).cell? ⟨w.heap.size, j, none⟩ = some u := by
  have hb : (w.alloc (.cells vs t)).heap[w.heap.size]? = some (.cells vs t) := heap_alloc_new w _
  rw [cell_of_row _ _ j _ _ _ hb]
  exact h
theorem box_two (w : World) (vs us : Array Value) (t t' : TypeId) (j : Nat) (u : Value) (h : vs[j]? = some u) : ((w.alloc (.cells vs t)).alloc (.cells us t')).cell? ⟨w.heap.size, j, none⟩ = some u := by
  have hb : ((w.alloc (.cells vs t)).alloc (.cells us t')).heap[w.heap.size]? = some (.cells vs t) := by
    rw [Below.heap_alloc _ _ _ (by simp)]
    exact heap_alloc_new w _
  rw [cell_of_row _ _ j _ _ _ hb]
  exact h
theorem box_two' (w : World) (vs us : Array Value) (t t' : TypeId) (j : Nat) (u : Value) (h : us[j]? = some u) : ((w.alloc (.cells vs t)).alloc (.cells us t')).cell? ⟨w.heap.size + 1, j, none⟩ = some u := by
  have hb : ((w.alloc (.cells vs t)).alloc (.cells us t')).heap[w.heap.size + 1]? = some (.cells us t') := by
    have := heap_alloc_new (w.alloc (.cells vs t)) (.cells us t')
    rwa [show (w.alloc (.cells vs t)).heap.size = w.heap.size + 1 by simp] at this
  rw [cell_of_row _ _ j _ _ _ hb]
  exact h
def nodesTot (ns : List NodeD) : Nat := ns.length + (ns.map fun x => x.name.size + x.kids.length).sum

structure SymD where
  kind : Int
  text : ByteArray
  args : List (List NodeD)
  bind : ByteArray
structure RuleD where
  name : ByteArray
  params : List ByteArray
  alts : List (List SymD)
instance : Inhabited SymD := ⟨⟨0, ⟨#[]⟩, [], ⟨#[]⟩⟩⟩
instance : Inhabited RuleD := ⟨⟨⟨#[]⟩, [], []⟩⟩

/-- Expr: its cells. -/
def ExprE (w : World) (vs : List Value) (x : List NodeD) : Prop := ∃ r0 : Value, vs = [r0] ∧ NRow w r0 x
def ExprIn (x : List NodeD) : Prop := RowInn NodeIn x
def exprTot (x : List NodeD) : Nat := nodesTot x
theorem ExprE_stable : StableE ExprE := fun w w' vs x h hb => by
  obtain ⟨r0, e, h0⟩ := h
  exact ⟨r0, e, h0.below hb⟩

/-- Sym: its cells. -/
def SymE (w : World) (vs : List Value) (x : SymD) : Prop := ∃ r0 : Value, vs = [.int .i64 x.kind, .string x.text, r0, .string x.bind] ∧ RowC 1 ExprE w r0 x.args
def SymIn (x : SymD) : Prop := i64 x.kind ∧ StrIn x.text ∧ RowInn ExprIn x.args ∧ StrIn x.bind
def symTot (x : SymD) : Nat := x.text.size + rowTot exprTot x.args + x.bind.size
theorem SymE_stable : StableE SymE := fun w w' vs x h hb => by
  obtain ⟨r0, e, h0⟩ := h
  exact ⟨r0, e, RowC.below ExprE_stable h0 hb⟩

/-- Alt: its cells. -/
def AltE (w : World) (vs : List Value) (x : List SymD) : Prop := ∃ r0 : Value, vs = [r0] ∧ RowC 4 SymE w r0 x
def AltIn (x : List SymD) : Prop := RowInn SymIn x
def altTot (x : List SymD) : Nat := rowTot symTot x
theorem AltE_stable : StableE AltE := fun w w' vs x h hb => by
  obtain ⟨r0, e, h0⟩ := h
  exact ⟨r0, e, RowC.below SymE_stable h0 hb⟩

/-- Rule: its cells. -/
def RuleE (w : World) (vs : List Value) (x : RuleD) : Prop := ∃ r0 r1 : Value, vs = [.string x.name, r0, r1] ∧ SRow w r0 x.params ∧ RowC 1 AltE w r1 x.alts
def RuleIn (x : RuleD) : Prop := StrIn x.name ∧ RowInn StrIn x.params ∧ RowInn AltIn x.alts
def ruleTot (x : RuleD) : Nat := x.name.size + rowTot ByteArray.size x.params + rowTot altTot x.alts
theorem RuleE_stable : StableE RuleE := fun w w' vs x h hb => by
  obtain ⟨r0, r1, e, h0, h1⟩ := h
  exact ⟨r0, r1, e, h0.below hb, RowC.below AltE_stable h1 hb⟩

/-- Grammar: its cells. -/
def GrammarE (w : World) (vs : List Value) (x : List RuleD) : Prop := ∃ r0 : Value, vs = [r0] ∧ RowC 3 RuleE w r0 x
def GrammarIn (x : List RuleD) : Prop := RowInn RuleIn x
def grammarTot (x : List RuleD) : Nat := rowTot ruleTot x
theorem GrammarE_stable : StableE GrammarE := fun w w' vs x h hb => by
  obtain ⟨r0, e, h0⟩ := h
  exact ⟨r0, e, RowC.below RuleE_stable h0 hb⟩

end Go.Proofs.YtkmkfpgaehgonaaGreatDoor

namespace Go.Proofs.YtkmkfpgaehgonaaGreatDoor
open Go.RowKit

def inI (n lo hi : Int) : Bool := decide (lo ≤ n ∧ n ≤ hi)
/-- How many kids an Op has. -/
def kidsN (op : Int) : Int := if op = 1 ∨ op = 2 ∨ op = 3 then 0 else if op = 11 then 1 else 2
/-- Num and Name are as the Op wants them. -/
def fieldsB (x : NodeD) : Bool := (if x.op = 1 then inI x.num 0 99 else decide (x.num = 0)) && (if x.op = 2 then nameB x.name else decide (x.name = ⟨#[]⟩))
def kidsB (i : Nat) (ks : List Int) : Bool := ks.all (fun k => inI k 0 ((i : Int) - 1))
def nodeB (i : Nat) (x : NodeD) : Bool := inI x.op 1 11 && decide ((x.kids.length : Int) = kidsN x.op) && fieldsB x && kidsB i x.kids
def nodesF : Nat → List NodeD → Bool
  | _, [] => true
  | i, x :: xs => nodeB i x && nodesF (i + 1) xs
/-- A right expression. -/
def exprB (ns : List NodeD) : Bool := nodesF 0 ns && inI (ns.length : Int) 1 20

theorem nodesF_app (l m : List NodeD) : ∀ i, nodesF i (l ++ m) = (nodesF i l && nodesF (i + l.length) m) := by
  induction l with
  | nil => intro i; simp [nodesF]
  | cons x l ih => intro i; rw [List.cons_append, nodesF, nodesF, ih, List.length_cons, Bool.and_assoc, show i + 1 + l.length = i + (l.length + 1) by omega]
theorem nodesF_next (ns : List NodeD) (k : Nat) (h : k < ns.length) : nodesF 0 (ns.take (k + 1)) = (nodesF 0 (ns.take k) && nodeB k ns[k]) := by
  rw [List.take_succ_eq_append_getElem h, nodesF_app]
  simp [nodesF, Nat.min_eq_left (Nat.le_of_lt h)]
theorem exprB_no {ns : List NodeD} {k : Nat} (h : k < ns.length) (hn : nodeB k ns[k] = false) : exprB ns = false := by
  have : nodesF 0 ns = false := by
    rw [← List.take_append_drop (k + 1) ns, nodesF_app, nodesF_next ns k h, hn]
    simp
  rw [exprB, this, Bool.false_and]
theorem nodesF_at : ∀ (ns : List NodeD) (i : Nat), nodesF i ns = true → ∀ k (h : k < ns.length), nodeB (i + k) ns[k] = true
  | [], _, _, _, h => by simp at h
  | x :: xs, i, hn, k, h => by
    rw [nodesF, Bool.and_eq_true] at hn
    cases k with
    | zero => exact hn.1
    | succ k =>
      have := nodesF_at xs (i + 1) hn.2 k (by simpa using h)
      rw [show i + (k + 1) = i + 1 + k by omega]
      simpa using this
/-- What a right expression's nodes are. -/
theorem exprB_at {ns : List NodeD} (h : exprB ns = true) : (1 ≤ ns.length ∧ ns.length ≤ 20) ∧ ∀ k (hk : k < ns.length), nodeB k ns[k] = true := by
  rw [exprB, Bool.and_eq_true, inI, decide_eq_true_eq] at h
  refine ⟨by omega, fun k hk => ?_⟩
  have := nodesF_at ns 0 h.1 k hk
  rwa [Nat.zero_add] at this
theorem node_parts {i : Nat} {x : NodeD} (h : nodeB i x = true) : (1 ≤ x.op ∧ x.op ≤ 11) ∧ (x.kids.length : Int) = kidsN x.op ∧ fieldsB x = true ∧ ∀ k ∈ x.kids, 0 ≤ k ∧ k < i := by
  rw [nodeB, Bool.and_eq_true, Bool.and_eq_true, Bool.and_eq_true, inI, decide_eq_true_eq, decide_eq_true_eq, kidsB, List.all_eq_true] at h
  refine ⟨h.1.1.1, h.1.1.2, h.1.2, fun k hk => ?_⟩
  have := h.2 k hk
  rw [inI, decide_eq_true_eq] at this
  omega

def flagI (b : Bool) : Int := if b = true then 1 else 0
/-- What is reckoned of two numbers, where it can be. -/
def twoB (op a b : Int) : Option Int :=
  if op = 4 then some (a + b) else if op = 5 then some (a - b) else if op = 6 then some (a * b) else if op = 7 then (if b = 0 then none else some (a.tdiv b))
  else if op = 8 then some (flagI (decide (a < b))) else if op = 9 then some (flagI (decide (a = b))) else some (flagI (decide (a ≠ 0) && decide (b ≠ 0)))
/-- A number that is not beyond. -/
def capB (o : Option Int) : Option Int := o.bind fun n => if inI n (-9999) 9999 = true then some n else none
/-- What a node is worth, its kids being worth so much. -/
def nodeV (env : ByteArray → Option Int) (here : Int) (x : NodeD) (vs : List Int) : Option Int :=
  if x.op = 1 then some x.num else if x.op = 2 then env x.name else if x.op = 3 then some here
  else if x.op = 11 then some (flagI (decide (vs.getD 0 0 = 0))) else twoB x.op (vs.getD 0 0) (vs.getD 1 0)
/-- All of them, or none. -/
def allV : List (Option Int) → Option (List Int)
  | [] => some []
  | none :: _ => none
  | some v :: os => (allV os).map (v :: ·)
/-- What the node at a place is worth: its kids lie ahead of it. -/
def evalN (ns : List NodeD) (env : ByteArray → Option Int) (here : Int) : Nat → Nat → Option Int
  | 0, _ => none
  | f + 1, i => match ns[i]? with
    | none => none
    | some x => match allV (x.kids.map fun k => evalN ns env here f k.toNat) with
      | none => none
      | some vs => capB (nodeV env here x vs)
/-- What the whole is worth. -/
def evalB (ns : List NodeD) (env : ByteArray → Option Int) (here : Int) : Option Int :=
  if exprB ns = true then evalN ns env here ns.length (ns.length - 1) else none

theorem evalN_succ (ns : List NodeD) (env : ByteArray → Option Int) (here : Int) (f i : Nat) (h : i < ns.length) : evalN ns env here (f + 1) i = match allV (ns[i].kids.map fun k => evalN ns env here f k.toNat) with
      | none => none
      | some vs => capB (nodeV env here ns[i] vs) := by
  rw [evalN, List.getElem?_eq_getElem h]
/-- More fuel than the place asks changes nothing. -/
theorem evalN_fuel {ns : List NodeD} (hn : ∀ k (hk : k < ns.length), nodeB k ns[k] = true) (env : ByteArray → Option Int) (here : Int) : ∀ (i f : Nat), i < ns.length → i < f → evalN ns env here f i = evalN ns env here (i + 1) i := by
  intro i
  induction i using Nat.strongRecOn with
  | ind i ih =>
    intro f hi hf
    obtain ⟨g, rfl⟩ : ∃ g, f = g + 1 := ⟨f - 1, by omega⟩
    rw [evalN_succ _ _ _ _ _ hi, evalN_succ _ _ _ _ _ hi]
    have e : (ns[i].kids.map fun k => evalN ns env here g k.toNat) = ns[i].kids.map fun k => evalN ns env here i k.toNat := by
      apply List.map_congr_left
      intro k hk
      have := (node_parts (hn i hi)).2.2.2 k hk
      rw [ih k.toNat (by omega) g (by omega) (by omega), ih k.toNat (by omega) i (by omega) (by omega)]
    rw [e]
/-- A node's worth, in its own words. -/
def valN (ns : List NodeD) (env : ByteArray → Option Int) (here : Int) (i : Nat) : Option Int := evalN ns env here (i + 1) i
theorem valN_eq {ns : List NodeD} (hn : ∀ k (hk : k < ns.length), nodeB k ns[k] = true) (env : ByteArray → Option Int) (here : Int) (i : Nat) (hi : i < ns.length) :
    valN ns env here i = match allV (ns[i].kids.map fun k => valN ns env here k.toNat) with
      | none => none
      | some vs => capB (nodeV env here ns[i] vs) := by
  rw [valN, evalN_succ _ _ _ _ _ hi]
  have e : (ns[i].kids.map fun k => evalN ns env here i k.toNat) = ns[i].kids.map fun k => valN ns env here k.toNat := by
    apply List.map_congr_left
    intro k hk
    have := (node_parts (hn i hi)).2.2.2 k hk
    rw [valN, evalN_fuel hn env here k.toNat i (by omega) (by omega)]
  rw [e]
theorem evalB_val {ns : List NodeD} (h : exprB ns = true) (env : ByteArray → Option Int) (here : Int) : evalB ns env here = valN ns env here (ns.length - 1) := by
  obtain ⟨hl, hn⟩ := exprB_at h
  rw [evalB, if_pos h, valN, evalN_fuel hn env here (ns.length - 1) ns.length (by omega) (by omega)]

theorem allV_none {os : List (Option Int)} (h : none ∈ os) : allV os = none := by
  induction os with
  | nil => cases h
  | cons o os ih =>
    cases o with
    | none => rfl
    | some v =>
      have : none ∈ os := by simpa using h
      rw [allV, ih this]
      rfl
theorem allV_map {α : Type} (ks : List α) (f : α → Option Int) (g : α → Int) (h : ∀ k ∈ ks, f k = some (g k)) : allV (ks.map f) = some (ks.map g) := by
  induction ks with
  | nil => rfl
  | cons k ks ih =>
    rw [List.map_cons, h k (List.mem_cons_self ..), allV, ih (fun j hj => h j (List.mem_cons_of_mem _ hj))]
    rfl

/-- The nodes below the whole: the whole is one; the kids of one are; each other one is a kid of one. -/
def Marks (ns : List NodeD) (m : List Bool) : Prop :=
  m.length = ns.length ∧ m[ns.length - 1]? = some true ∧
    (∀ i (hi : i < ns.length), m[i]? = some true → ∀ k ∈ ns[i].kids, m[k.toNat]? = some true) ∧
    (∀ i, i < ns.length - 1 → m[i]? = some true → ∃ p, ∃ hp : p < ns.length, i < p ∧ m[p]? = some true ∧ (i : Int) ∈ ns[p].kids)
/-- Where one below the whole is worth nothing, the whole is. -/
theorem marks_none {ns : List NodeD} {m : List Bool} (h : exprB ns = true) (hm : Marks ns m) (env : ByteArray → Option Int) (here : Int) : ∀ (d i : Nat), i + d = ns.length - 1 → m[i]? = some true → valN ns env here i = none → evalB ns env here = none := by
  obtain ⟨hl, hn⟩ := exprB_at h
  intro d
  induction d using Nat.strongRecOn with
  | ind d ih =>
    intro i hd hi hv
    by_cases h0 : d = 0
    · subst h0
      obtain rfl : i = ns.length - 1 := by omega
      rw [evalB_val h, hv]
    · obtain ⟨p, hp, hip, hpm, hk⟩ := hm.2.2.2 i (by omega) hi
      refine ih (ns.length - 1 - p) (by omega) p (by omega) hpm ?_
      rw [valN_eq hn env here p hp, allV_none]
      exact List.mem_map.2 ⟨(i : Int), hk, by simpa using hv⟩

end Go.Proofs.YtkmkfpgaehgonaaGreatDoor
