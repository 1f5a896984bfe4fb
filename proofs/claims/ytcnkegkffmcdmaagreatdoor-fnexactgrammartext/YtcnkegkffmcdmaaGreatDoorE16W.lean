/- The law on ShortText, walked out of contracts: it returns true at every text. -/
/- The program's byteWriter: number, short and single. -/
import Derived.Test.YtcnkegkffmcdmaaGreatDoorVar
import Derived.Test.YtcnkegkffmcdmaaGreatDoorE16Q
import Derived.Test.YtcnkegkffmcdmaaGreatDoorEnvGet
import Derived.Lib.OthersKept
import Derived.Shelf.Strings.BuilderX
import Derived.WalkKit
namespace Go.Proofs.YtcnkegkffmcdmaaGreatDoor
open Go.RowKit

theorem implShort_yes (s : ByteArray) (w : World) (hs : s.size ≤ 20000) :
    Calls Tryz.prog 55 #[.string s] w fun e w' => e = .returned (.tuple #[.string (str (varB s.size) ++ s), .bool true]) ∧ Below w.heap.size w w' := by
  have hv := varB_len s.size
  have hz := str_size (varB s.size)
  have hadd := fun W => run_string_add_sum (P := Tryz.prog) (w := W) (str (varB s.size)) s (by omega)
  clear hz hv
  go_enter Tryz.func55, Tryz.ntmps55
  go_wp2_with (go_at_call 54; refine (implVar_yes _ _ (by omega)).mono ?_; rintro e w1 ⟨rfl, hb1⟩)
  go_ret2
  exact ⟨rfl, hb1⟩

theorem implShort_no (s : ByteArray) (w : World) (hs : 20000 < s.size) :
    Calls Tryz.prog 55 #[.string s] w fun e w' => e = .returned (.tuple #[.string (str []), .bool false]) ∧ w' = w := by
  have hs1 : (20000 : Int) < s.size := by omega
  go_enter Tryz.func55, Tryz.ntmps55
  go_wp2
  go_ret2
  exact ⟨rfl, rfl⟩

end Go.Proofs.YtcnkegkffmcdmaaGreatDoor

namespace Go.Proofs.YtcnkegkffmcdmaaGreatDoor
open Go.RowKit
set_option linter.unusedVariables false

/-- A writer that has written l, its row above B. -/
def WrB (B b : Nat) (l : List UInt8) (w : World) : Prop :=
  B ≤ b ∧ ∃ v, w.heap[b]? = some (.cells #[v] 57 (0, 0)) ∧ w.ownsRow B 5 1 v l.length (bv l)
/-- What a call of a writer's method leaves. -/
def WrO (B b : Nat) (l : List UInt8) (w : World) (e : Ending) (w' : World) : Prop :=
  e = .returned (.tuple #[]) ∧ WrB B b l w' ∧ Below B w w' ∧ Lib.OthersKept 5 (some b) w w'

theorem wr_types : 57 ≠ 5 := by decide
theorem wrByte : (Tryz.prog.info? 5).map (fun i => (i.zero, i.size, i.bytes)) = some (some (.int .u8 0), 1, 1) := by kernel_rfl
theorem WrB.lt {B b : Nat} {l : List UInt8} {w : World} (h : WrB B b l w) : b < w.heap.size := by
  obtain ⟨_, v, hb, _⟩ := h
  exact (Array.getElem?_eq_some_iff.1 hb).1
theorem strCells_str (l : List UInt8) : Lib.strCells (str l) = bv l := by rw [Lib.strCells, str_list]; rfl
theorem WrB.put {B b : Nat} {l : List UInt8} {v v' : Value} {w : World} (hB : B ≤ b) (hb : w.heap[b]? = some (.cells #[v] 57 (0, 0))) (hown : w.ownsRow B 5 1 v' l.length (bv l)) : WrB B b l (w.setCell ⟨b, 0, none⟩ v') := by
  have hne := Lib.ownBlock_ne hown hb wr_types
  refine ⟨hB, v', ?_, ?_⟩
  · simp [World.setCell, Array.getElem?_modify, hb]
  · exact hown.kept (row := some b) ⟨rfl, rfl, rfl, by simp [World.setCell], fun k _ hk => Below.heap_setCell _ _ _ _ (fun e => hk (by simp [e]))⟩ (Or.inr hne)
theorem own_bel16 {B : Nat} {e : TypeId} {k : Nat} {v : Value} {n : Nat} {xs : List Value} {w w' : World} (h : w.ownsRow B e k v n xs) (hb : Below w.heap.size w w') : w'.ownsRow B e k v n xs := by
  refine ⟨h.1, ?_⟩
  rcases h.2 with h0 | ⟨g, cap, cur, rfl, hg, hh, hr⟩
  · exact .inl h0
  · exact .inr ⟨g, cap, cur, rfl, hg, by rw [hb.block g (Array.getElem?_eq_some_iff.1 hh).1]; exact hh, hr⟩
theorem str_add16 (a b : List UInt8) : str a ++ str b = str (a ++ b) := by
  apply ByteArray.ext
  simp [str]
theorem str_self16 (s : ByteArray) : str s.data.toList = s := by
  apply ByteArray.ext
  simp [str]
theorem WrB.below {B b : Nat} {l : List UInt8} {w w' : World} (h : WrB B b l w) (hb : Below w.heap.size w w') : WrB B b l w' := by
  obtain ⟨hB, v, hv, hown⟩ := h
  exact ⟨hB, v, by rw [hb.block b (Array.getElem?_eq_some_iff.1 hv).1]; exact hv, own_bel16 hown hb⟩
theorem okept_below {e : TypeId} {b : Option Nat} {w w' : World} (hb : Below w.heap.size w w') : Lib.OthersKept e b w w' := fun k o hk _ _ => by
  rw [hb.block k (Array.getElem?_eq_some_iff.1 hk).1]; exact hk
theorem WrO.trans {B b : Nat} {l m : List UInt8} {w w' w'' : World} {e e' : Ending} (h : WrO B b l w e w') (k : WrO B b m w' e' w'') (hB : B ≤ w.heap.size) : WrO B b m w e' w'' :=
  ⟨k.1, k.2.1, h.2.2.1.trans (k.2.2.1.mono (Nat.le_refl _)), h.2.2.2.trans k.2.2.2⟩
/-- A cell of a block that is neither the writer nor a row of bytes. -/
theorem okept_cell {b k : Nat} {cs : Array Value} {T : TypeId} {fz : Nat × Nat} {w w' : World} (h : Lib.OthersKept 5 (some b) w w') (hk : w.heap[k]? = some (.cells cs T fz)) (hkb : k ≠ b) (hT : T ≠ 5) : w'.heap[k]? = some (.cells cs T fz) :=
  h k _ hk (by simpa using hkb) fun c f he => hT (by injection he)

set_option maxHeartbeats 2000000 in
theorem wrPut_any (B b : Nat) (l m : List UInt8) (w w1 : World) (v v' : Value) (hB : B ≤ b) (hBw : B ≤ w1.heap.size) (hv : w1.heap[b]? = some (.cells #[v] 57 (0, 0))) (hown : w1.ownsRow B 5 1 v l.length (bv l))
    (w2 : World) (hown' : w2.ownsRow B 5 1 v' (l ++ m).length (bv (l ++ m))) (hgrow : w1.grownBy w2 v.ownBlock) (hb1 : Below B w w1) (hk1 : Lib.OthersKept 5 (some b) w w1) :
    w2.heap[b]? = some (.cells #[v] 57 (0, 0)) ∧ WrO B b (l ++ m) w (.returned (.tuple #[])) (w2.setCell ⟨b, 0, none⟩ v') := by
  have hlt : b < w1.heap.size := (Array.getElem?_eq_some_iff.1 hv).1
  have hne := Lib.ownBlock_ne hown hv wr_types
  have hb2 : w2.heap[b]? = some (.cells #[v] 57 (0, 0)) := by
    rw [hgrow.block b hlt (fun e => hne e.symm)]
    exact hv
  refine ⟨hb2, rfl, WrB.put hB hb2 hown', ?_, (hk1.grown hgrow (Lib.ownsRowF_kind (World.ownsRowF_of hown))).setCell ⟨b, 0, none⟩ rfl _⟩
  exact (hb1.grown hgrow hBw (fun k hk => (hown.lt k hk).1)).setCell (p := ⟨b, 0, none⟩) hB _

set_option maxHeartbeats 2000000 in
theorem wrNumber_any (B b : Nat) (l : List UInt8) (n : Nat) (w : World) (h : WrB B b l w) (hn : n ≤ 1000000000) (hlen : l.length ≤ 1000000000) (hBw : B ≤ w.heap.size) :
    Calls Tryz.prog 32 #[.pointer (some ⟨b, 0, none⟩), .int .i64 n] w fun e w' => WrO B b (l ++ varB n) w e w' := by
  obtain ⟨i0, hi, hz0, hz1, hz2⟩ := info_parts wrByte
  have hvl := varB_len n
  have HW : Hid (WrB B b l w) := h
  clear h
  go_enter Tryz.func32, Tryz.ntmps32
  go_wp2_with fail
  refine (implVar_yes n w hn).mono ?_
  rintro e w1 ⟨rfl, hb1⟩
  obtain ⟨hB, v, hv, hown⟩ := HW.out.below hb1
  have hlt : b < w1.heap.size := (Array.getElem?_eq_some_iff.1 hv).1
  have c0 : w1.cell? ⟨b, 0, none⟩ = some v := by rw [Lib.cell_of_heap hv]; rfl
  go_wp2_with (at_builtin; refine Lib.wpList_append_own_string _ rfl _ _ 48 9 rfl B 5 i0 Tryz.underlying48 Tryz.underlying9 hi hz0 hz1 hz2 _ _ _ rfl hown (str (varB n)) rfl ?c3 ?c4 ?c5 ?_)
  case c3 => rw [str_size]; unfold maxLen; omega
  case c4 => rw [str_size]; omega
  case c5 => have := hb1.size; omega
  intro v' w2 hown' hgrow _
  rw [strCells_str, str_size, ← bv_app, ← List.length_append] at hown'
  have hP := wrPut_any B b l (varB n) w w1 v v' hB (by have := hb1.size; omega) hv hown w2 hown' hgrow (hb1.mono hBw) (okept_below hb1)
  have d0 : w2.cell? ⟨b, 0, none⟩ = some v := by rw [Lib.cell_of_heap hP.1]; rfl
  have f0 : w2.frozen? ⟨b, 0, none⟩ = false := Lib.frozen_of_heap hP.1 0
  obtain ⟨ao, n', cap, rfl⟩ : ∃ ao n' cap, v' = .slice ao n' cap := by
    rcases hown'.2 with ⟨hv, _⟩ | ⟨g, cap, cur, hv, _⟩
    · exact ⟨_, _, _, hv⟩
    · exact ⟨_, _, _, hv⟩
  have HP : Hid (WrO B b (l ++ varB n) w (.returned (.tuple #[])) (w2.setCell ⟨b, 0, none⟩ (.slice ao n' cap))) := hP.2
  clear hP hown hown' hgrow hb1 hv hlt
  go_wp2
  go_end0
  exact HP.out

set_option maxHeartbeats 2000000 in
theorem wrShort_any (B b : Nat) (l : List UInt8) (s : ByteArray) (w : World) (h : WrB B b l w) (hn : s.size ≤ 20000) (hlen : l.length ≤ 1000000000) (hBw : B ≤ w.heap.size) :
    Calls Tryz.prog 33 #[.pointer (some ⟨b, 0, none⟩), .string s] w fun e w' => WrO B b (l ++ shortW s) w e w' := by
  obtain ⟨i0, hi, hz0, hz1, hz2⟩ := info_parts wrByte
  have hvl : (shortW s).length ≤ 50000 := by
    have := varB_len s.size
    rw [shortW, List.length_append]
    simp
    omega
  have HS : Hid (str (varB s.size) ++ s = str (shortW s)) := by
    rw [Hid, shortW, ← str_add16, str_self16]
  have HW : Hid (WrB B b l w) := h
  clear h
  go_enter Tryz.func33, Tryz.ntmps33
  go_wp2_with fail
  refine (implShort_yes s w hn).mono ?_
  rintro e w1 ⟨rfl, hb1⟩
  rw [HS.out]
  obtain ⟨hB, v, hv, hown⟩ := HW.out.below hb1
  have hlt : b < w1.heap.size := (Array.getElem?_eq_some_iff.1 hv).1
  have c0 : w1.cell? ⟨b, 0, none⟩ = some v := by rw [Lib.cell_of_heap hv]; rfl
  go_wp2_with (at_builtin; refine Lib.wpList_append_own_string _ rfl _ _ 48 9 rfl B 5 i0 Tryz.underlying48 Tryz.underlying9 hi hz0 hz1 hz2 _ _ _ rfl hown (str (shortW s)) rfl ?c3 ?c4 ?c5 ?_)
  case c3 => rw [str_size]; unfold maxLen; omega
  case c4 => rw [str_size]; omega
  case c5 => have := hb1.size; omega
  intro v' w2 hown' hgrow _
  rw [strCells_str, str_size, ← bv_app, ← List.length_append] at hown'
  have hP := wrPut_any B b l (shortW s) w w1 v v' hB (by have := hb1.size; omega) hv hown w2 hown' hgrow (hb1.mono hBw) (okept_below hb1)
  have d0 : w2.cell? ⟨b, 0, none⟩ = some v := by rw [Lib.cell_of_heap hP.1]; rfl
  have f0 : w2.frozen? ⟨b, 0, none⟩ = false := Lib.frozen_of_heap hP.1 0
  obtain ⟨ao, n', cap, rfl⟩ : ∃ ao n' cap, v' = .slice ao n' cap := by
    rcases hown'.2 with ⟨hv, _⟩ | ⟨g, cap, cur, hv, _⟩
    · exact ⟨_, _, _, hv⟩
    · exact ⟨_, _, _, hv⟩
  have HP : Hid (WrO B b (l ++ shortW s) w (.returned (.tuple #[])) (w2.setCell ⟨b, 0, none⟩ (.slice ao n' cap))) := hP.2
  clear hP hown hown' hgrow hb1 hv hlt HS
  go_wp2
  go_end0
  exact HP.out

set_option maxHeartbeats 2000000 in
set_option maxRecDepth 100000 in
theorem wrSingle_any (B b : Nat) (l : List UInt8) (nv : Value) (ks : List Int) (w : World) (h : WrB B b l w) (hR : ∀ W, Below B w W → Lib.OthersKept 5 (some b) w W → IRow W nv ks) (hk : ∀ k ∈ ks, 0 ≤ k ∧ k ≤ 127) (hks : ks.length ≤ 1000) (hlen : l.length ≤ 1000000000) (hBw : B ≤ w.heap.size) :
    Calls Tryz.prog 73 #[.pointer (some ⟨b, 0, none⟩), nv] w fun e w' => WrO B b (l ++ ks.map byteW) w e w' := by
  obtain ⟨i0, hi, hz0, hz1, hz2⟩ := info_parts wrByte
  have HRR : Hid (∀ W, Below B w W → Lib.OthersKept 5 (some b) w W → IRow W nv ks) := hR
  obtain ⟨na, nc, rfl⟩ := (hR w (Below.refl _ _) (Lib.OthersKept.refl _ _ _)).slice
  have HW : Hid (WrB B b l w) := h
  have HK : Hid (∀ k ∈ ks, 0 ≤ k ∧ k ≤ 127) := hk
  clear h hR hk
  go_enter Tryz.func73, Tryz.ntmps73
  go_wp2
  go_loopw [8] (fun iv wr => ∃ k : Nat, iv = .int .i64 k ∧ k ≤ ks.length ∧ WrO B b (l ++ (ks.take k).map byteW) w (.returned (.tuple #[])) wr) (fun iv _ => ks.length - (intOf iv).toNat)
  case atStart => exact ⟨0, rfl, Nat.zero_le _, rfl, by rw [List.take_zero, List.map_nil, List.append_nil]; exact HW.out, Below.refl _ _, Lib.OthersKept.refl _ _ _⟩
  case round =>
    obtain ⟨k, rfl, hkl, ho⟩ := hrel
    have HO : Hid (WrO B b (l ++ (ks.take k).map byteW) w (.returned (.tuple #[])) wr) := ho
    clear ho
    by_cases hlt : k < ks.length
    · obtain ⟨g, off, rfl, hc⟩ := (HRR.out wr HO.out.2.2.1 HO.out.2.2.2).at hlt
      have i4 : (k : Int) < (ks.length : Int) := by omega
      have hb := HK.out ks[k] (List.getElem_mem hlt)
      have HN : Hid (l ++ (ks.take (k + 1)).map byteW = (l ++ (ks.take k).map byteW) ++ [byteW ks[k]]) := by
        rw [Hid, List.take_succ_eq_append_getElem hlt, List.map_append, List.map_cons, List.map_nil, List.append_assoc]
      have hll : (l ++ (ks.take k).map byteW).length ≤ 1000001000 := by
        rw [List.length_append, List.length_map, List.length_take]
        omega
      have HBy : Hid (((byteW ks[k]).toNat : Int) = ks[k]) := byteW_int hb
      have hw8 : IntKind.u8.wrap ks[k] = ks[k] := by rw [IntKind.wrap_u8]; omega
      generalize ks[k] = y at *
      generalize l ++ (ks.take k).map byteW = pre at *
      obtain ⟨hB, v, hv, hown⟩ := HO.out.2.1
      have c0 : wr.cell? ⟨b, 0, none⟩ = some v := by rw [Lib.cell_of_heap hv]; rfl
      go_wp2_with (at_builtin; refine wpList_append_own _ rfl _ _ 48 rfl B 5 i0 (.int .u8 0) 1 1 Tryz.underlying48 hi hz0 hz1 hz2 rfl (by decide) _ _ _ rfl (hown.alloc _) ⟨wr.heap.size, 0, none⟩ 1 1 [.int .u8 y] rfl rfl (one_at _ _ _) (one_cell _ _) (by unfold maxLen; omega) (by omega) ?c5 ?_)
      case c5 => have := HO.out.2.2.1.size; simp; omega
      intro v' w2 hown' hgrow _
      have hv2 : (wr.alloc (.cells #[.int .u8 y] 5)).heap[b]? = some (.cells #[v] 57 (0, 0)) := by
        rw [Lib.alloc_old wr _ b (Array.getElem?_eq_some_iff.1 hv).1]; exact hv
      have hown2 : w2.ownsRow B 5 1 v' (pre ++ [byteW y]).length (bv (pre ++ [byteW y])) := by
        rw [bv_app, bv_one, HBy.out, List.length_append]
        simpa using hown'
      have hsz := HO.out.2.2.1.size
      have hP := wrPut_any B b pre [byteW y] w (wr.alloc (.cells #[.int .u8 y] 5)) v v' hB (by simp; omega) hv2 (hown.alloc _) w2 hown2 hgrow (HO.out.2.2.1.alloc (by omega) _) (HO.out.2.2.2.alloc _)
      have d0 : w2.cell? ⟨b, 0, none⟩ = some v := by rw [Lib.cell_of_heap hP.1]; rfl
      have f0 : w2.frozen? ⟨b, 0, none⟩ = false := Lib.frozen_of_heap hP.1 0
      obtain ⟨ao, n', cap, rfl⟩ : ∃ ao n' cap, v' = .slice ao n' cap := by
        rcases hown'.2 with ⟨hv, _⟩ | ⟨g, cap, cur, hv, _⟩
        · exact ⟨_, _, _, hv⟩
        · exact ⟨_, _, _, hv⟩
      have HP : Hid (WrO B b (pre ++ [byteW y]) w (.returned (.tuple #[])) (w2.setCell ⟨b, 0, none⟩ (.slice ao n' cap))) := hP.2
      clear hP hown hown' hown2 hgrow hv hv2 hc c0 hb
      go_wp2
      go_roundw
      case rel => exact ⟨k + 1, by go_num, by omega, by rw [HN.out]; exact HP.out⟩
      case measure => simp [intOf]; omega
    · obtain rfl : k = ks.length := by omega
      rw [List.take_length] at HO
      go_wp2
      go_end0
      exact HO.out

end Go.Proofs.YtcnkegkffmcdmaaGreatDoor
