/- Marks written into a list of texts, and looked for again. -/
import Derived.Test.YtgibdhpfmojnkaaSKit
import Derived.Test.YtgibdhpfmojnkaaMark
import Derived.Deep.RegionHeld3
namespace Go.Proofs.Ytgibdhpfmojnkaa
open Go.RowKit

def smark (k : Nat) (j : Nat) : ByteArray := str (markB (k + j))
def smarks (k n : Nat) : List ByteArray := (List.range n).map (smark k)
theorem smarks_len (k n : Nat) : (smarks k n).length = n := by simp [smarks]
theorem smarks_next (k n : Nat) : smarks k (n + 1) = smarks k n ++ [smark k n] := by simp [smarks, List.range_succ]
theorem smarks_at (k n i : Nat) (h : i < (smarks k n).length) : (smarks k n)[i] = smark k i := by simp [smarks]
theorem sb_set (ss : List ByteArray) (i : Nat) (s : ByteArray) : sb (ss.set i s) = (sb ss).set i (.string s) := by simp [sb, List.map_set]
theorem smarks_set (k i : Nat) (ss : List ByteArray) (h : i < ss.length) : (smarks k i ++ ss.drop i).set i (smark k i) = smarks k (i + 1) ++ ss.drop (i + 1) := by
  rw [smarks_next, List.set_append_right _ _ (by rw [smarks_len]; exact Nat.le_refl _), smarks_len, Nat.sub_self]
  rw [List.append_assoc]
  congr 1
  rw [List.drop_eq_getElem_cons h]
  rfl

set_option maxHeartbeats 800000 in
theorem markStringS_held (B : Nat) (v : Value) (ss : List ByteArray) (k0 : Nat) (w : World) (hn : ss.length ≤ 10000000) (h0 : 0 < k0) (h1 : k0 ≤ 100000000) (hown : OwnB B v ss w) :
    Calls Try.prog 11 #[v, .int .i64 k0] w fun e w' => e = .returned (.int .i64 ((k0 + ss.length : Nat) : Int)) ∧ OwnB B v (smarks k0 ss.length) w' ∧ w.grownBy w' v.ownBlock := by
  by_cases hz : ss.length = 0
  · obtain rfl : ss = [] := List.eq_nil_of_length_eq_zero hz
    have HO : Hid (OwnB B v [] w) := hown
    obtain ⟨a, cap, rfl⟩ := hown.row.slice
    clear hown hz
    simp only [List.length_nil]
    go_enter Try.func11, Try.ntmps11
    go_wp2
    go_loop [1, 5] (fun kv iv => kv = .int .i64 k0 ∧ iv = .int .i64 0) (fun _ _ => 0)
    case atStart => exact ⟨rfl, rfl⟩
    case round =>
      obtain ⟨rfl, rfl⟩ := hrel
      go_wp2
      go_ret
      exact ⟨rfl, HO.out, World.grownBy.refl _ _⟩
  · obtain ⟨g, cap, rfl, hBg, hgl⟩ := World.ownsRow.form hown (by omega)
    have HO : Hid (OwnB B (.slice (some ⟨g, 0, none⟩) ss.length cap) ss w) := hown
    clear hown
    go_enter Try.func11, Try.ntmps11
    go_wp2
    go_loopw [1, 5] (fun kv iv wr => ∃ i : Nat, kv = .int .i64 ((k0 + i : Nat) : Int) ∧ iv = .int .i64 i ∧ i ≤ ss.length ∧ OwnB B (.slice (some ⟨g, 0, none⟩) ss.length cap) (smarks k0 i ++ ss.drop i) wr ∧ w.grownBy wr (some g)) (fun _ iv _ => ss.length - (intOf iv).toNat)
    case atStart => exact ⟨0, rfl, rfl, Nat.zero_le _, by simpa [smarks] using HO.out, World.grownBy.refl _ _⟩
    case round =>
      obtain ⟨i, rfl, rfl, hi, hown, hgr⟩ := hrel
      have HW : Hid (OwnB B (.slice (some ⟨g, 0, none⟩) ss.length cap) (smarks k0 i ++ ss.drop i) wr) := hown
      have HG : Hid (w.grownBy wr (some g)) := hgr
      have hyl : (smarks k0 i ++ ss.drop i).length = ss.length := by rw [List.length_append, smarks_len, List.length_drop]; omega
      have HYl : Hid ((smarks k0 i ++ ss.drop i).length = ss.length) := hyl
      clear hown hgr hyl
      by_cases hlt : i < ss.length
      · go_wp2_with fail
        refine (mark_any (k0 + i) _ (by omega) (by omega)).mono ?_
        rintro e w1 ⟨rfl, hb1⟩
        have HO1 : Hid (w1.ownsRow B 9 1 (.slice (some ⟨g, 0, none⟩) ss.length cap) ss.length (sb (smarks k0 i ++ ss.drop i))) := by
          have := own_below HW.out hb1
          rwa [HYl.out] at this
        obtain ⟨c0, hc0, f0⟩ := own_cell HO1.out i (by omega)
        have HG1 : Hid (w.grownBy w1 (some g)) := ⟨hb1.os.trans HG.out.os, hb1.tape.trans HG.out.tape, hb1.output.trans HG.out.output, Nat.le_trans HG.out.size hb1.size, fun j hj hr => (hb1.block j (Nat.lt_of_lt_of_le hj HG.out.size)).trans (HG.out.block j hj hr)⟩
        clear hb1
        have HN : Hid (str (markB (k0 + i)) = smark k0 i) := rfl
        generalize str (markB (k0 + i)) = T at *
        go_wp2
        go_roundw
        case rel =>
          have s1 := World.ownsRow.stored HO1.out i (.string T)
          have t1 := s1.2
          refine ⟨i + 1, congrArg (Value.int .i64) (by omega), by go_num, by omega, ?_, ⟨t1.os.trans HG1.out.os, t1.tape.trans HG1.out.tape, t1.output.trans HG1.out.output, Nat.le_trans HG1.out.size t1.size, fun j hj hr => (t1.block j (Nat.lt_of_lt_of_le hj HG1.out.size) hr).trans (HG1.out.block j hj hr)⟩⟩
          rw [← smarks_set k0 i ss hlt]
          unfold OwnB
          rw [List.length_set, HYl.out, sb_set, ← HN.out]
          exact s1.1
        case measure => simp [intOf]; omega
      · obtain rfl : i = ss.length := by omega
        have HF : Hid (OwnB B (.slice (some ⟨g, 0, none⟩) ss.length cap) (smarks k0 ss.length) wr) := by
          have := HW.out
          rwa [List.drop_length, List.append_nil] at this
        clear HW
        go_wp2
        go_ret
        exact ⟨rfl, HF.out, HG.out⟩

set_option maxHeartbeats 1600000 in
theorem heldStringS_any (v : Value) (n k0 : Nat) (w : World) (hn : n ≤ 10000000) (h0 : 0 < k0) (h1 : k0 ≤ 100000000) (h : SRow w v (smarks k0 n)) :
    Calls Try.prog 12 #[v, .int .i64 k0] w fun e w' => e = .returned (.int .i64 ((k0 + n : Nat) : Int)) ∧ Below w.heap.size w w' := by
  have HR : Hid (SRow w v (smarks k0 n)) := h
  obtain ⟨a, cap, rfl⟩ := h.slice
  clear h
  rw [smarks_len] at HR ⊢
  go_enter Try.func12, Try.ntmps12
  go_wp2
  go_loopw [1, 5] (fun kv iv wr => ∃ i : Nat, kv = .int .i64 ((k0 + i : Nat) : Int) ∧ iv = .int .i64 i ∧ i ≤ n ∧ Below w.heap.size w wr) (fun _ iv _ => n - (intOf iv).toNat)
  case atStart => exact ⟨0, rfl, rfl, Nat.zero_le _, Below.refl _ _⟩
  case round =>
    obtain ⟨i, rfl, rfl, hi, hb⟩ := hrel
    have HB : Hid (Below w.heap.size w wr) := hb
    have HRr : Hid (SRow wr (.slice a n cap) (smarks k0 n)) := HR.out.below hb
    clear hb
    by_cases hlt : i < n
    · obtain ⟨b, off, rfl, hc1⟩ := HRr.out.at (k := i) (by rw [smarks_len]; exact hlt)
      rw [smarks_at] at hc1
      have hc1' : wr.cell? ⟨b, off + i, none⟩ = some (.string (str (markB (k0 + i)))) := hc1
      have HM : Hid (∀ W, _) := fun W => mark_any (k0 + i) W (by omega) (by omega)
      clear hc1
      generalize str (markB (k0 + i)) = T at *
      have i4 : (i : Int) < (n : Int) := by omega
      go_wp2
      go_region_held3 (fun W => W.cell? ⟨b, off + i, none⟩ = some (.string T)) ((first | go_keep | exact cell_keep (W := wr.drew) hc1' hb2))
        ((first | (go_at_call 23; refine (HM.out _).mono ?_; rintro e w2 ⟨rfl, hb2⟩)))
      have HB2 : Hid (Below w.heap.size w w2) := HB.out.trans ((bel_of_drew hb2).mono HB.out.size)
      clear hb2
      go_wp2
      go_roundw
      case rel => exact ⟨i + 1, congrArg (Value.int .i64) (by omega), by go_num, by omega, HB2.out⟩
      case measure => simp [intOf]; omega
    · obtain rfl : i = n := by omega
      go_wp2
      go_ret
      exact ⟨rfl, HB.out⟩

end Go.Proofs.Ytgibdhpfmojnkaa
