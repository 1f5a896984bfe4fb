/- Lists of texts: as they lie in memory, as arguments, and the laws' helpers on them. -/
import Derived.Test.YtbjkfecailnelaaVKit
import Derived.Test.YtbjkfecailnelaaMark
import Derived.Deep.Strs
import Derived.OpenShut
namespace Go.Proofs.Ytbjkfecailnelaa
open Go.RowKit

def SRow (w : World) (v : Value) (ss : List ByteArray) : Prop :=
  ∃ a cap, v = .slice a ss.length cap ∧ (a = none → cap = 0) ∧ (0 < ss.length → ∃ b off, a = some ⟨b, off, none⟩ ∧ b < w.heap.size ∧
    ∀ i (h : i < ss.length), w.cell? ⟨b, off + i, none⟩ = some (.string ss[i]))
theorem SRow.slice {w : World} {v : Value} {ss : List ByteArray} (h : SRow w v ss) : ∃ a cap, v = .slice a ss.length cap := by
  obtain ⟨a, cap, rfl, _⟩ := h
  exact ⟨a, cap, rfl⟩
theorem SRow.below {w w' : World} {v : Value} {ss : List ByteArray} (h : SRow w v ss) (hb : Below w.heap.size w w') : SRow w' v ss := by
  obtain ⟨a, cap, rfl, hcap, hh⟩ := h
  refine ⟨a, cap, rfl, hcap, fun h0 => ?_⟩
  obtain ⟨b, off, rfl, hlt, hc⟩ := hh h0
  exact ⟨b, off, rfl, Nat.lt_of_lt_of_le hlt hb.size, fun i hi => (World.cell?_of_block (hb.block b hlt)).trans (hc i hi)⟩
theorem SRow.at {w : World} {a : Option Addr} {n cap k : Nat} {ss : List ByteArray} (h : SRow w (.slice a n cap) ss) (hk : k < ss.length) :
    ∃ b off, a = some ⟨b, off, none⟩ ∧ w.cell? ⟨b, off + k, none⟩ = some (.string ss[k]) := by
  obtain ⟨a', cap', e, _, hh⟩ := h
  cases e
  obtain ⟨b, off, rfl, _, hc⟩ := hh (by omega)
  exact ⟨b, off, rfl, hc k hk⟩

def sb (ss : List ByteArray) : List Value := ss.map .string
theorem sb_len (ss : List ByteArray) : (sb ss).length = ss.length := by simp [sb]
theorem sb_at (ss : List ByteArray) (i : Nat) (h : i < ss.length) : (sb ss)[i]? = some (.string ss[i]) := by simp [sb, h]
def OwnB (B : Nat) (v : Value) (ss : List ByteArray) (w : World) : Prop := w.ownsRow B 9 1 v ss.length (sb ss)
theorem OwnB.row {B : Nat} {v : Value} {ss : List ByteArray} {w : World} (h : OwnB B v ss w) : SRow w v ss := by
  rcases h.2 with ⟨rfl, hz⟩ | ⟨g, cap, cur, rfl, hB, hc, hle, hm, hs, ht⟩
  · exact ⟨none, 0, by rw [hz], fun _ => rfl, fun h0 => by omega⟩
  · refine ⟨some ⟨g, 0, none⟩, cap, rfl, fun h => (by cases h), fun _ => ⟨g, 0, rfl, (Array.getElem?_eq_some_iff.1 hc).1, fun i hi => ?_⟩⟩
    have := World.ownsRow.cells h (g := g) rfl i _ (sb_at ss i hi)
    rwa [Addr.add_lit] at this
theorem OwnB.below {B : Nat} {v : Value} {ss : List ByteArray} {w w' : World} (h : OwnB B v ss w) (hb : Below w.heap.size w w') : OwnB B v ss w' := own_below h hb
theorem OwnB.kept {B : Nat} {v : Value} {ss : List ByteArray} {w w' : World} {row : Option Nat} (h : OwnB B v ss w) (hg : w.grownBy w' row) (hne : ∀ k, v.ownBlock = some k → row ≠ some k) : OwnB B v ss w' :=
  World.ownsRow.kept h hg (by
    cases hv : v.ownBlock with
    | none => exact .inl rfl
    | some k => exact .inr (fun e => hne k hv e.symm))

/-- An argument: its list, within the machine's bounds. -/
def SArg (w : World) (v : Value) (ss : List ByteArray) : Prop := SRow w v ss ∧ ss.length ≤ maxLen ∧ ∀ s ∈ ss, s.size ≤ maxLen
theorem sArg_of_trod {H : Type} {enc : TypeId × Value → H} {P : Program} {w : World} {base : Nat} {held : Bool} {t e : TypeId} {fuel : Nat} {v : Value} {x : DataW H × List MemPlace} (ht : P.underlying t = some (.slice e)) (he : P.underlying e = some .string)
    (ce : P.cellsOf e = 1) (h : DataW.trod enc P w base (fun _ => true) held fuel t [v] = some x) : ∃ ss, SArg w v ss := by
  rcases Go.Deep.open_strs ht he ce h with ⟨h0, _⟩ | ⟨a, len, cap, m, Sx, hv, hb, hl, hm, hmm, _, hc⟩
  · obtain rfl : v = .slice none 0 0 := by simpa using h0
    exact ⟨[], ⟨none, 0, rfl, fun _ => rfl, fun h => absurd h (by simp)⟩, by simp, by simp⟩
  · obtain rfl : v = .slice (some a) len cap := by simpa using hv
    have hml : len ≤ m := by rw [hmm, if_pos rfl]; exact hl
    have hxl : ((List.range len).map Sx).length = len := by simp
    refine ⟨(List.range len).map Sx, ⟨some a, cap, by rw [hxl], fun h => (by cases h), fun h0 => ?_⟩, by rw [hxl]; omega, fun x hx => ?_⟩
    · obtain ⟨b, off, spot⟩ := a
      rw [hxl] at h0
      have h1 := (hc 0 (by omega)).1
      have hspot : spot = none := by simpa [Addr.add] using World.cell?_spot h1
      subst hspot
      refine ⟨b, off, rfl, ?_, fun i hi => ?_⟩
      · have := World.block_lt_of_cell? w _ h1
        simpa [Addr.add] using this
      · rw [hxl] at hi
        have h2 := (hc i (by omega)).1
        rw [Addr.add_lit] at h2
        simpa using h2
    · obtain ⟨i, hi, rfl⟩ := List.mem_map.1 hx
      exact (hc i (by have := List.mem_range.1 hi; omega)).2

def totB (ss : List ByteArray) : Nat := (ss.map fun s => s.size).sum
theorem totB_next (ss : List ByteArray) (k : Nat) (h : k < ss.length) : totB (ss.take (k + 1)) = totB (ss.take k) + ss[k].size := by
  rw [List.take_succ_eq_append_getElem h]
  simp only [totB, List.map_append, List.sum_append, List.map_cons, List.map_nil, List.sum_cons, List.sum_nil, Nat.add_zero]
theorem totB_mem {ss : List ByteArray} {s : ByteArray} (h : s ∈ ss) : s.size ≤ totB ss := by
  induction ss with
  | nil => cases h
  | cons y ss ih =>
    simp only [totB, List.map_cons, List.sum_cons]
    rcases List.mem_cons.1 h with rfl | h
    · omega
    · have := ih h; simp only [totB] at this; omega


theorem Try.infoStr : (Try.prog.info? 9).map (fun i => (i.zero, i.size, i.bytes)) = some (some (.string ⟨#[]⟩), 1, 16) := by kernel_rfl

theorem take_one1 (cs : List Value) (j : Nat) (a : Value) (h : j < cs.length) : (cs.set j a).take (j + 1) = cs.take j ++ [a] := by
  rw [List.take_succ_eq_append_getElem (by simpa using h), List.take_set_of_le (Nat.le_refl _)]
  simp


set_option maxHeartbeats 1600000 in
theorem eqStringS_same (u v : Value) (ss : List ByteArray) (w : World) (hx : ss.length ≤ 2097153) (h : SRow w u ss) (h' : SRow w v ss) :
    Calls Try.prog 42 #[u, v] w fun e w' => e = .returned (.bool true) ∧ ∃ q, w' = w.drewN q := by
  have HX : Hid (SRow w u ss) := h
  have HY : Hid (SRow w v ss) := h'
  obtain ⟨a, cap, rfl⟩ := h.slice
  obtain ⟨a', cap', rfl⟩ := h'.slice
  clear h h'
  go_enter Try.func42, Try.ntmps42
  go_wp2
  go_loopw [5] (fun iv wr => ∃ k q : Nat, iv = .int .i64 k ∧ k ≤ ss.length ∧ wr = w.drewN q) (fun iv _ => ss.length - (intOf iv).toNat)
  case atStart => exact ⟨0, 0, rfl, Nat.zero_le _, rfl⟩
  case round =>
    obtain ⟨k, q, rfl, hk, hwr⟩ := hrel
    have HW : Hid (wr = w.drewN q) := hwr
    have HXr : Hid (SRow wr (.slice a ss.length cap) ss) := by rw [HW.out]; exact HX.out.below (bel_drewN (Below.refl _ _) q)
    have HYr : Hid (SRow wr (.slice a' ss.length cap') ss) := by rw [HW.out]; exact HY.out.below (bel_drewN (Below.refl _ _) q)
    clear hwr
    by_cases hlt : k < ss.length
    · obtain ⟨b, off, rfl, hc1⟩ := HXr.out.at hlt
      obtain ⟨b', off', rfl, hc2⟩ := HYr.out.at hlt
      have i4 : (k : Int) < (ss.length : Int) := by omega
      have ht : (ss[k].toList == ss[k].toList) = true := by simp
      go_wp2
      go_quiet (fail)
      go_wp2
      go_roundw
      case rel => exact ⟨k + 1, q + nq, by go_num, by omega, by rw [HW.out, World.drewN_drewN]⟩
      case measure => simp [intOf]; omega
    · obtain rfl : k = ss.length := by omega
      go_wp2
      go_ret
      exact ⟨rfl, q, HW.out⟩

set_option maxHeartbeats 800000 in
theorem markStringS_any (B : Nat) (v : Value) (ss : List ByteArray) (k0 : Nat) (w : World) (hn : ss.length ≤ 10000000) (h0 : 0 < k0) (h1 : k0 ≤ 100000000) (hown : OwnB B v ss w) :
    Calls Try.prog 35 #[v, .int .i64 k0] w fun e w' => e = .returned (.int .i64 ((k0 + ss.length : Nat) : Int)) ∧ w.grownBy w' v.ownBlock := by
  by_cases hz : ss.length = 0
  · obtain rfl : ss = [] := List.eq_nil_of_length_eq_zero hz
    obtain ⟨a, cap, rfl⟩ := hown.row.slice
    clear hown hz
    simp only [List.length_nil]
    go_enter Try.func35, Try.ntmps35
    go_wp2
    go_loop [1, 5] (fun kv iv => kv = .int .i64 k0 ∧ iv = .int .i64 0) (fun _ _ => 0)
    case atStart => exact ⟨rfl, rfl⟩
    case round =>
      obtain ⟨rfl, rfl⟩ := hrel
      go_wp2
      go_ret
      exact ⟨rfl, World.grownBy.refl _ _⟩
  · obtain ⟨g, cap, rfl, hBg, hgl⟩ := World.ownsRow.form hown (by omega)
    have HO : Hid (OwnB B (.slice (some ⟨g, 0, none⟩) ss.length cap) ss w) := hown
    clear hown
    go_enter Try.func35, Try.ntmps35
    go_wp2
    go_loopw [1, 5] (fun kv iv wr => ∃ (i : Nat) (cs : List Value), kv = .int .i64 ((k0 + i : Nat) : Int) ∧ iv = .int .i64 i ∧ i ≤ ss.length ∧ wr.ownsRow B 9 1 (.slice (some ⟨g, 0, none⟩) ss.length cap) ss.length cs ∧ w.grownBy wr (some g)) (fun _ iv _ => ss.length - (intOf iv).toNat)
    case atStart => exact ⟨0, _, rfl, rfl, Nat.zero_le _, HO.out, World.grownBy.refl _ _⟩
    case round =>
      obtain ⟨i, cs, rfl, rfl, hi, hown, hgr⟩ := hrel
      have HW : Hid (wr.ownsRow B 9 1 (.slice (some ⟨g, 0, none⟩) ss.length cap) ss.length cs) := hown
      have HG : Hid (w.grownBy wr (some g)) := hgr
      clear hown hgr
      by_cases hlt : i < ss.length
      · go_wp2_with fail
        refine (mark_any (k0 + i) _ (by omega) (by omega)).mono ?_
        rintro e w1 ⟨rfl, hb1⟩
        have HO1 : Hid (w1.ownsRow B 9 1 (.slice (some ⟨g, 0, none⟩) ss.length cap) ss.length cs) := own_below HW.out hb1
        obtain ⟨c0, hc0, f0⟩ := own_cell HO1.out i (by omega)
        have HG1 : Hid (w.grownBy w1 (some g)) := ⟨hb1.os.trans HG.out.os, hb1.tape.trans HG.out.tape, hb1.output.trans HG.out.output, Nat.le_trans HG.out.size hb1.size, fun j hj hr => (hb1.block j (Nat.lt_of_lt_of_le hj HG.out.size)).trans (HG.out.block j hj hr)⟩
        clear hb1
        generalize str (markB (k0 + i)) = T at *
        go_wp2
        go_roundw
        case rel =>
          have s1 := World.ownsRow.stored HO1.out i (.string T)
          have t1 := s1.2
          exact ⟨i + 1, _, congrArg (Value.int .i64) (by omega), by go_num, by omega, s1.1, ⟨t1.os.trans HG1.out.os, t1.tape.trans HG1.out.tape, t1.output.trans HG1.out.output, Nat.le_trans HG1.out.size t1.size, fun j hj hr => (t1.block j (Nat.lt_of_lt_of_le hj HG1.out.size) hr).trans (HG1.out.block j hj hr)⟩⟩
        case measure => simp [intOf]; omega
      · obtain rfl : i = ss.length := by omega
        go_wp2
        go_ret
        exact ⟨rfl, HG.out⟩

end Go.Proofs.Ytbjkfecailnelaa
