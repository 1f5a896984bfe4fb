/- The texts that the laws write into an answer's strings: what markText answers at every number above 0. -/
/- Lists of texts: as they lie in memory, as arguments, and the laws' helpers on them. -/
import Derived.Test.YtofpoiccghpliaaGreatDoorRows
import Derived.Test.YtofpoiccghpliaaGreatDoorDecPure
import Derived.Deep.Strs
import Derived.OpenShut
namespace Go.Proofs.YtofpoiccghpliaaGreatDoor
open Go.RowKit

def markB (k : Nat) : List UInt8 := 109 :: digs k

/-- What holds at each round's head: the figures of m are left. -/
def MarkRel (n0 : Nat) (base : Nat) (w : World) (nv sv : Value) (wr : World) : Prop :=
  ∃ (m : Nat) (t : List UInt8), nv = .int .i64 m ∧ sv = .string (str t) ∧ digs m ++ t = digs n0 ∧ m ≤ n0 ∧ Below base w wr ∧ base ≤ wr.heap.size

theorem markRel_step {n0 m : Nat} {base : Nat} {w wr : World} {t : List UInt8} (hm : 0 < m) (hmn : m ≤ n0)
    (hd : digs m ++ t = digs n0) (hbel : Below base w wr) (hsz : base ≤ wr.heap.size) (o : Obj) :
    MarkRel n0 base w (.int .i64 ((m : Int) / 10)) (.string (str ([byteI (48 + (m : Int) % 10)] ++ t))) (wr.alloc o) := by
  refine ⟨m / 10, _, by simp, rfl, ?_, by omega, hbel.alloc hsz o, by simp; omega⟩
  rw [← hd, digs_step m (by omega)]
  have : (48 + (m : Int) % 10).toNat = 48 + m % 10 := by omega
  rw [byteI, this]
  simp

theorem mark_room {n0 m : Nat} {t : List UInt8} (hd : digs m ++ t = digs n0) (b2 : n0 ≤ 1000000000000) : t.length ≤ 100000000001 := by
  have h1 := digs_len n0
  have h2 := congrArg List.length hd
  rw [List.length_append] at h2
  omega

set_option maxHeartbeats 800000 in
theorem mark_any (n : Nat) (w : World) (h0 : 0 < n) (h1 : n ≤ 1000000000000) :
    Calls Tryz.prog 21 #[.int .i64 n] w fun e w' => e = .returned (.string (str (markB n))) ∧ Below w.heap.size w w' := by
  have hn0 : ¬ n = 0 := by omega
  go_enter Tryz.func21, Tryz.ntmps21
  go_wp2
  go_loopw [0, 3] (fun nv sv wr => MarkRel n w.heap.size w nv sv wr) (fun nv _ _ => (intOf nv).toNat)
  case atStart => exact ⟨n, [], rfl, rfl, by simp, Nat.le_refl _, Below.refl _ _, Nat.le_refl _⟩
  case round =>
    obtain ⟨m, t, rfl, rfl, hd, hmn, hbel, hsz⟩ := hrel
    have hroom := mark_room hd h1
    have HD : Hid (digs m ++ t = digs n) := hd
    clear hd
    have hz : (str t).size ≤ 100000000001 := by rw [str_size]; omega
    by_cases hm : 0 < m
    · have hcv := fun W => run_one_string (P := Tryz.prog) W 73 9 5 (48 + (m : Int) % 10) (by omega) (by omega) Tryz.underlying73 Tryz.underlying5 Tryz.underlying9
      have hadd := fun W => run_add_str (P := Tryz.prog) W [byteI (48 + (m : Int) % 10)] t (by simp; omega)
      have R := markRel_step hm hmn HD.out hbel hsz (.cells #[.int .u8 (48 + (m : Int) % 10)] 5)
      go_wp2
      go_roundw
      case rel => exact R
      case measure => simp [intOf]; omega
    · obtain rfl : m = 0 := by omega
      have HE : Hid (markB n = [109] ++ t) := by
        have := HD.out
        simp only [digs, if_true, List.nil_append] at this
        simp only [Hid, markB, digs, this]
        rfl
      go_wp2
      go_ret
      rw [HE.out, ← str_add]
      exact ⟨rfl, hbel⟩

end Go.Proofs.YtofpoiccghpliaaGreatDoor

namespace Go.Proofs.YtofpoiccghpliaaGreatDoor
open Go.RowKit

def SRow (w : World) (v : Value) (ss : List ByteArray) : Prop :=
  ∃ a cap, v = .slice a ss.length cap ∧ (a = none → cap = 0) ∧ (0 < ss.length → ∃ b off, a = some ⟨b, off, none⟩ ∧ b < w.heap.size ∧
    ∀ i (h : i < ss.length), w.cell? ⟨b, off + i, none⟩ = some (.string ss[i]))
theorem SRow.slice {w : World} {v : Value} {ss : List ByteArray} (h : SRow w v ss) : ∃ a cap, v = .slice a ss.length cap := by
  obtain ⟨a, cap, rfl, _⟩ := h
  exact ⟨a, cap, rfl⟩
theorem SRow.below {w w' : World} {v : Value} {ss : List ByteArray} (h : SRow w v ss) (hb : Below w.heap.size w w') : SRow w' v ss := by
  obtain ⟨a, cap, rfl, hcap, hh⟩ := h
  refine ⟨a, cap, rfl, hcap, fun h0 => ?_⟩
  obtain ⟨b, off, rfl, hlt, hc⟩ := hh h0
  exact ⟨b, off, rfl, Nat.lt_of_lt_of_le hlt hb.size, fun i hi => (World.cell?_of_block (hb.block b hlt)).trans (hc i hi)⟩
theorem SRow.at {w : World} {a : Option Addr} {n cap k : Nat} {ss : List ByteArray} (h : SRow w (.slice a n cap) ss) (hk : k < ss.length) :
    ∃ b off, a = some ⟨b, off, none⟩ ∧ w.cell? ⟨b, off + k, none⟩ = some (.string ss[k]) := by
  obtain ⟨a', cap', e, _, hh⟩ := h
  cases e
  obtain ⟨b, off, rfl, _, hc⟩ := hh (by omega)
  exact ⟨b, off, rfl, hc k hk⟩

def sb (ss : List ByteArray) : List Value := ss.map .string
theorem sb_len (ss : List ByteArray) : (sb ss).length = ss.length := by simp [sb]
theorem sb_at (ss : List ByteArray) (i : Nat) (h : i < ss.length) : (sb ss)[i]? = some (.string ss[i]) := by simp [sb, h]
def OwnB (B : Nat) (v : Value) (ss : List ByteArray) (w : World) : Prop := w.ownsRow B 9 1 v ss.length (sb ss)
theorem OwnB.row {B : Nat} {v : Value} {ss : List ByteArray} {w : World} (h : OwnB B v ss w) : SRow w v ss := by
  rcases h.2 with ⟨rfl, hz⟩ | ⟨g, cap, cur, rfl, hB, hc, hle, hm, hs, ht⟩
  · exact ⟨none, 0, by rw [hz], fun _ => rfl, fun h0 => by omega⟩
  · refine ⟨some ⟨g, 0, none⟩, cap, rfl, fun h => (by cases h), fun _ => ⟨g, 0, rfl, (Array.getElem?_eq_some_iff.1 hc).1, fun i hi => ?_⟩⟩
    have := World.ownsRow.cells h (g := g) rfl i _ (sb_at ss i hi)
    rwa [Addr.add_lit] at this
theorem OwnB.below {B : Nat} {v : Value} {ss : List ByteArray} {w w' : World} (h : OwnB B v ss w) (hb : Below w.heap.size w w') : OwnB B v ss w' := own_below h hb
theorem OwnB.kept {B : Nat} {v : Value} {ss : List ByteArray} {w w' : World} {row : Option Nat} (h : OwnB B v ss w) (hg : w.grownBy w' row) (hne : ∀ k, v.ownBlock = some k → row ≠ some k) : OwnB B v ss w' :=
  World.ownsRow.kept h hg (by
    cases hv : v.ownBlock with
    | none => exact .inl rfl
    | some k => exact .inr (fun e => hne k hv e.symm))

/-- An argument: its list, within the machine's bounds. -/
def SArg (w : World) (v : Value) (ss : List ByteArray) : Prop := SRow w v ss ∧ ss.length ≤ maxLen ∧ ∀ s ∈ ss, s.size ≤ maxLen
theorem sArg_of_trod {H : Type} {enc : TypeId × Value → H} {P : Program} {w : World} {base : Nat} {held : Bool} {t e : TypeId} {fuel : Nat} {v : Value} {x : DataW H × List MemPlace} (ht : P.underlying t = some (.slice e)) (he : P.underlying e = some .string)
    (ce : P.cellsOf e = 1) (h : DataW.trod enc P w base (fun _ => true) held fuel t [v] = some x) : ∃ ss, SArg w v ss := by
  rcases Go.Deep.open_strs ht he ce h with ⟨h0, _⟩ | ⟨a, len, cap, m, Sx, hv, hb, hl, hm, hmm, _, hc⟩
  · obtain rfl : v = .slice none 0 0 := by simpa using h0
    exact ⟨[], ⟨none, 0, rfl, fun _ => rfl, fun h => absurd h (by simp)⟩, by simp, by simp⟩
  · obtain rfl : v = .slice (some a) len cap := by simpa using hv
    have hml : len ≤ m := by rw [hmm, if_pos rfl]; exact hl
    have hxl : ((List.range len).map Sx).length = len := by simp
    refine ⟨(List.range len).map Sx, ⟨some a, cap, by rw [hxl], fun h => (by cases h), fun h0 => ?_⟩, by rw [hxl]; omega, fun x hx => ?_⟩
    · obtain ⟨b, off, spot⟩ := a
      rw [hxl] at h0
      have h1 := (hc 0 (by omega)).1
      have hspot : spot = none := by simpa [Addr.add] using World.cell?_spot h1
      subst hspot
      refine ⟨b, off, rfl, ?_, fun i hi => ?_⟩
      · have := World.block_lt_of_cell? w _ h1
        simpa [Addr.add] using this
      · rw [hxl] at hi
        have h2 := (hc i (by omega)).1
        rw [Addr.add_lit] at h2
        simpa using h2
    · obtain ⟨i, hi, rfl⟩ := List.mem_map.1 hx
      exact (hc i (by have := List.mem_range.1 hi; omega)).2

def totB (ss : List ByteArray) : Nat := (ss.map fun s => s.size).sum
theorem totB_next (ss : List ByteArray) (k : Nat) (h : k < ss.length) : totB (ss.take (k + 1)) = totB (ss.take k) + ss[k].size := by
  rw [List.take_succ_eq_append_getElem h]
  simp only [totB, List.map_append, List.sum_append, List.map_cons, List.map_nil, List.sum_cons, List.sum_nil, Nat.add_zero]
theorem totB_mem {ss : List ByteArray} {s : ByteArray} (h : s ∈ ss) : s.size ≤ totB ss := by
  induction ss with
  | nil => cases h
  | cons y ss ih =>
    simp only [totB, List.map_cons, List.sum_cons]
    rcases List.mem_cons.1 h with rfl | h
    · omega
    · have := ih h; simp only [totB] at this; omega

set_option maxHeartbeats 800000 in
theorem szStringS_any (v : Value) (ss : List ByteArray) (left : Int) (w : World) (h0 : 0 ≤ left) (h1 : left ≤ 1048576) (hm : ss.length ≤ maxLen) (hz : ∀ s ∈ ss, s.size ≤ maxLen) (h : SRow w v ss) :
    Calls Tryz.prog 34 #[v, .int .i64 left] w fun e w' => ∃ r : Int, e = .returned (.int .i64 r) ∧ (r = -1 ∨ (0 ≤ r ∧ r + ss.length + totB ss = left)) ∧ w' = w := by
  have HR : Hid (SRow w v ss) := h
  have HZ : Hid (∀ s ∈ ss, s.size ≤ maxLen) := hz
  obtain ⟨a, cap, rfl⟩ := h.slice
  clear h hz
  unfold maxLen at hm
  by_cases hl : left < ss.length
  · have h2 : left - (ss.length : Int) < 0 := by omega
    go_enter Tryz.func34, Tryz.ntmps34
    go_wp2
    go_ret
    exact ⟨_, rfl, .inl rfl, rfl⟩
  · go_enter Tryz.func34, Tryz.ntmps34
    go_wp2
    go_loop [1, 5] (fun rv iv => ∃ (r : Int) (k : Nat), rv = .int .i64 r ∧ iv = .int .i64 k ∧ k ≤ ss.length ∧ 0 ≤ r ∧ r + ss.length + totB (ss.take k) = left) (fun _ iv => ss.length - (intOf iv).toNat)
    case atStart => exact ⟨_, 0, rfl, rfl, Nat.zero_le _, by omega, by simp [totB]⟩
    case round =>
      obtain ⟨r, k, rfl, rfl, hk, hr, ht⟩ := hrel
      by_cases hlt : k < ss.length
      · obtain ⟨b, off, rfl, hc1⟩ := HR.out.at hlt
        have hnx := totB_next ss k hlt
        have hsz := HZ.out _ (List.getElem_mem hlt)
        unfold maxLen at hsz
        by_cases hrl : r < ss[k].size
        · have h2 : r - (ss[k].size : Int) < 0 := by omega
          go_wp2
          go_ret
          exact ⟨_, rfl, .inl rfl, rfl⟩
        · go_wp2
          go_round
          case rel => exact ⟨_, k + 1, rfl, by go_num, by omega, by omega, by omega⟩
          case measure => simp [intOf]; omega
      · obtain rfl : k = ss.length := by omega
        rw [List.take_of_length_le (Nat.le_refl _)] at ht
        go_wp2
        go_ret
        exact ⟨_, rfl, .inr ⟨hr, ht⟩, rfl⟩

theorem Tryz.infoStr : (Tryz.prog.info? 9).map (fun i => (i.zero, i.size, i.bytes)) = some (some (.string ⟨#[]⟩), 1, 16) := by kernel_rfl

theorem take_one1 (cs : List Value) (j : Nat) (a : Value) (h : j < cs.length) : (cs.set j a).take (j + 1) = cs.take j ++ [a] := by
  rw [List.take_succ_eq_append_getElem (by simpa using h), List.take_set_of_le (Nat.le_refl _)]
  simp

set_option maxHeartbeats 800000 in
theorem toStringS_any (v : Value) (ss : List ByteArray) (w : World) (hm : ss.length ≤ 1048576) (h : SRow w v ss) :
    Calls Tryz.prog 39 #[v] w fun e w' => ∃ o, e = .returned o ∧ OwnB w.heap.size o ss w' ∧ Below w.heap.size w w' := by
  obtain ⟨i0, hi, hz0, hz1, hz2⟩ := info_parts Tryz.infoStr
  have HR : Hid (SRow w v ss) := h
  obtain ⟨a, cap, rfl⟩ := h.slice
  clear h
  go_enter Tryz.func39, Tryz.ntmps39
  go_wp2_with (at_make; refine wpList_make_full _ rfl _ _ 26 rfl w.heap.size 9 i0 _ 1 Tryz.underlying26 hi hz0 hz1 .i64 .i64 _ _ ss.length rfl rfl rfl rfl (by rw [hz2]; omega) (by unfold maxLen; omega) (Nat.le_refl _) ?_; intro w1 hown hg1)
  have HO : Hid (_) := hown
  have HB1 : Hid (Below w.heap.size w w1) := (Below.refl _ _).grown hg1 (Nat.le_refl _) (fun k h => by cases h)
  clear hown hg1
  go_loopw [4] (fun iv wr => ∃ (k : Nat) (cs : List Value), iv = .int .i64 k ∧ k ≤ ss.length ∧ wr.ownsRow w.heap.size 9 1 (.slice (some ⟨w.heap.size, 0, none⟩) ss.length ss.length) ss.length cs ∧ cs.take k = sb (ss.take k) ∧ Below w.heap.size w wr) (fun iv _ => ss.length - (intOf iv).toNat)
  case atStart => exact ⟨0, _, rfl, Nat.zero_le _, HO.out, rfl, HB1.out⟩
  case round =>
    obtain ⟨k, cs, rfl, hk, hown, hcs, hb⟩ := hrel
    have HW : Hid (wr.ownsRow w.heap.size 9 1 (.slice (some ⟨w.heap.size, 0, none⟩) ss.length ss.length) ss.length cs) := hown
    have HS : Hid (cs.take k = sb (ss.take k)) := hcs
    have HB : Hid (Below w.heap.size w wr) := hb
    have HRr : Hid (SRow wr (.slice a ss.length cap) ss) := HR.out.below hb
    clear hb hcs hown HO
    by_cases hlt : k < ss.length
    · obtain ⟨b, off, rfl, hc1⟩ := HRr.out.at hlt
      obtain ⟨c0, hc0, f0⟩ := own_cell HW.out k (by omega)
      go_wp2
      go_roundw
      case rel =>
        have s1 := World.ownsRow.stored HW.out k (.string ss[k])
        have hl : k < cs.length := by rw [HW.out.1]; omega
        refine ⟨k + 1, _, by go_num, by omega, s1.1, ?_, HB.out.setCell (Nat.le_refl _) _⟩
        rw [take_one1 cs k _ hl, HS.out, List.take_succ_eq_append_getElem hlt]
        simp only [sb, List.map_append, List.map_cons, List.map_nil]
      case measure => simp [intOf]; omega
    · obtain rfl : k = ss.length := by omega
      have HF : Hid (OwnB w.heap.size (.slice (some ⟨w.heap.size, 0, none⟩) ss.length ss.length) ss wr) := by
        have h1 := HS.out
        rw [List.take_of_length_le (by rw [HW.out.1]; omega), List.take_of_length_le (Nat.le_refl _)] at h1
        have h2 := HW.out
        rw [h1] at h2
        exact h2
      clear HW HS
      go_wp2
      go_ret
      exact ⟨_, rfl, HF.out, HB.out⟩

set_option maxHeartbeats 1600000 in
theorem eqStringS_same (u v : Value) (ss : List ByteArray) (w : World) (hx : ss.length ≤ 2097153) (h : SRow w u ss) (h' : SRow w v ss) :
    Calls Tryz.prog 8 #[u, v] w fun e w' => e = .returned (.bool true) ∧ ∃ q, w' = w.drewN q := by
  have HX : Hid (SRow w u ss) := h
  have HY : Hid (SRow w v ss) := h'
  obtain ⟨a, cap, rfl⟩ := h.slice
  obtain ⟨a', cap', rfl⟩ := h'.slice
  clear h h'
  go_enter Tryz.func8, Tryz.ntmps8
  go_wp2
  go_loopw [5] (fun iv wr => ∃ k q : Nat, iv = .int .i64 k ∧ k ≤ ss.length ∧ wr = w.drewN q) (fun iv _ => ss.length - (intOf iv).toNat)
  case atStart => exact ⟨0, 0, rfl, Nat.zero_le _, rfl⟩
  case round =>
    obtain ⟨k, q, rfl, hk, hwr⟩ := hrel
    have HW : Hid (wr = w.drewN q) := hwr
    have HXr : Hid (SRow wr (.slice a ss.length cap) ss) := by rw [HW.out]; exact HX.out.below (bel_drewN (Below.refl _ _) q)
    have HYr : Hid (SRow wr (.slice a' ss.length cap') ss) := by rw [HW.out]; exact HY.out.below (bel_drewN (Below.refl _ _) q)
    clear hwr
    by_cases hlt : k < ss.length
    · obtain ⟨b, off, rfl, hc1⟩ := HXr.out.at hlt
      obtain ⟨b', off', rfl, hc2⟩ := HYr.out.at hlt
      have i4 : (k : Int) < (ss.length : Int) := by omega
      have ht : (ss[k].toList == ss[k].toList) = true := by simp
      go_wp2
      go_quiet (fail)
      go_wp2
      go_roundw
      case rel => exact ⟨k + 1, q + nq, by go_num, by omega, by rw [HW.out, World.drewN_drewN]⟩
      case measure => simp [intOf]; omega
    · obtain rfl : k = ss.length := by omega
      go_wp2
      go_ret
      exact ⟨rfl, q, HW.out⟩

set_option maxHeartbeats 800000 in
theorem markStringS_any (B : Nat) (v : Value) (ss : List ByteArray) (k0 : Nat) (w : World) (hn : ss.length ≤ 10000000) (h0 : 0 < k0) (h1 : k0 ≤ 100000000) (hown : OwnB B v ss w) :
    Calls Tryz.prog 11 #[v, .int .i64 k0] w fun e w' => e = .returned (.int .i64 ((k0 + ss.length : Nat) : Int)) ∧ w.grownBy w' v.ownBlock := by
  by_cases hz : ss.length = 0
  · obtain rfl : ss = [] := List.eq_nil_of_length_eq_zero hz
    obtain ⟨a, cap, rfl⟩ := hown.row.slice
    clear hown hz
    simp only [List.length_nil]
    go_enter Tryz.func11, Tryz.ntmps11
    go_wp2
    go_loop [1, 5] (fun kv iv => kv = .int .i64 k0 ∧ iv = .int .i64 0) (fun _ _ => 0)
    case atStart => exact ⟨rfl, rfl⟩
    case round =>
      obtain ⟨rfl, rfl⟩ := hrel
      go_wp2
      go_ret
      exact ⟨rfl, World.grownBy.refl _ _⟩
  · obtain ⟨g, cap, rfl, hBg, hgl⟩ := World.ownsRow.form hown (by omega)
    have HO : Hid (OwnB B (.slice (some ⟨g, 0, none⟩) ss.length cap) ss w) := hown
    clear hown
    go_enter Tryz.func11, Tryz.ntmps11
    go_wp2
    go_loopw [1, 5] (fun kv iv wr => ∃ (i : Nat) (cs : List Value), kv = .int .i64 ((k0 + i : Nat) : Int) ∧ iv = .int .i64 i ∧ i ≤ ss.length ∧ wr.ownsRow B 9 1 (.slice (some ⟨g, 0, none⟩) ss.length cap) ss.length cs ∧ w.grownBy wr (some g)) (fun _ iv _ => ss.length - (intOf iv).toNat)
    case atStart => exact ⟨0, _, rfl, rfl, Nat.zero_le _, HO.out, World.grownBy.refl _ _⟩
    case round =>
      obtain ⟨i, cs, rfl, rfl, hi, hown, hgr⟩ := hrel
      have HW : Hid (wr.ownsRow B 9 1 (.slice (some ⟨g, 0, none⟩) ss.length cap) ss.length cs) := hown
      have HG : Hid (w.grownBy wr (some g)) := hgr
      clear hown hgr
      by_cases hlt : i < ss.length
      · go_wp2_with fail
        refine (mark_any (k0 + i) _ (by omega) (by omega)).mono ?_
        rintro e w1 ⟨rfl, hb1⟩
        have HO1 : Hid (w1.ownsRow B 9 1 (.slice (some ⟨g, 0, none⟩) ss.length cap) ss.length cs) := own_below HW.out hb1
        obtain ⟨c0, hc0, f0⟩ := own_cell HO1.out i (by omega)
        have HG1 : Hid (w.grownBy w1 (some g)) := ⟨hb1.os.trans HG.out.os, hb1.tape.trans HG.out.tape, hb1.output.trans HG.out.output, Nat.le_trans HG.out.size hb1.size, fun j hj hr => (hb1.block j (Nat.lt_of_lt_of_le hj HG.out.size)).trans (HG.out.block j hj hr)⟩
        clear hb1
        generalize str (markB (k0 + i)) = T at *
        go_wp2
        go_roundw
        case rel =>
          have s1 := World.ownsRow.stored HO1.out i (.string T)
          have t1 := s1.2
          exact ⟨i + 1, _, congrArg (Value.int .i64) (by omega), by go_num, by omega, s1.1, ⟨t1.os.trans HG1.out.os, t1.tape.trans HG1.out.tape, t1.output.trans HG1.out.output, Nat.le_trans HG1.out.size t1.size, fun j hj hr => (t1.block j (Nat.lt_of_lt_of_le hj HG1.out.size) hr).trans (HG1.out.block j hj hr)⟩⟩
        case measure => simp [intOf]; omega
      · obtain rfl : i = ss.length := by omega
        go_wp2
        go_ret
        exact ⟨rfl, HG.out⟩

end Go.Proofs.YtofpoiccghpliaaGreatDoor
