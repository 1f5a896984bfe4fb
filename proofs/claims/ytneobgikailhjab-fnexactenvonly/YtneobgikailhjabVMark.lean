/- Marks written into a list of names with numbers, and looked for again. -/
import Derived.Test.YtneobgikailhjabVKit
import Derived.Test.YtneobgikailhjabMark
namespace Go.Proofs.Ytneobgikailhjab
open Go.RowKit

def vmark (k : Nat) (j : Nat) : VarD := (str (markB (k + 2 * j)), ((k + 2 * j + 1 : Nat) : Int))
def vmarks (k n : Nat) : List VarD := (List.range n).map (vmark k)
theorem vmarks_len (k n : Nat) : (vmarks k n).length = n := by simp [vmarks]
theorem vmarks_next (k n : Nat) : vmarks k (n + 1) = vmarks k n ++ [vmark k n] := by simp [vmarks, List.range_succ]
theorem vmarks_at (k n i : Nat) (h : i < (vmarks k n).length) : (vmarks k n)[i] = vmark k i := by simp [vmarks]

theorem vv_set : ∀ (ys : List VarD) (i : Nat) (x : VarD), i < ys.length → vv (ys.set i x) = ((vv ys).set (i * 2) (.string x.1)).set (i * 2 + 1) (.int .i64 x.2)
  | y :: ys, 0, x, _ => rfl
  | y :: ys, i + 1, x, h => by
    have e : vv (y :: ys) = .string y.1 :: .int .i64 y.2 :: vv ys := rfl
    have e2 : vv ((y :: ys).set (i + 1) x) = .string y.1 :: .int .i64 y.2 :: vv (ys.set i x) := rfl
    rw [e, e2, vv_set ys i x (by simpa using h), show (i + 1) * 2 = i * 2 + 1 + 1 by omega]
    rfl

theorem marks_set (k i : Nat) (xs : List VarD) (h : i < xs.length) : (vmarks k i ++ xs.drop i).set i (vmark k i) = vmarks k (i + 1) ++ xs.drop (i + 1) := by
  rw [vmarks_next, List.set_append_right _ _ (by rw [vmarks_len]; exact Nat.le_refl _), vmarks_len, Nat.sub_self]
  rw [List.append_assoc]
  congr 1
  rw [List.drop_eq_getElem_cons h]
  rfl

set_option maxHeartbeats 800000 in
theorem markVarS_any (B : Nat) (v : Value) (xs : List VarD) (k0 : Nat) (w : World) (hn : xs.length ≤ 10000000) (h0 : 0 < k0) (h1 : k0 ≤ 100000000) (hown : OwnV B v xs w) :
    Calls Try.prog 15 #[v, .int .i64 k0] w fun e w' => e = .returned (.int .i64 ((k0 + 2 * xs.length : Nat) : Int)) ∧ OwnV B v (vmarks k0 xs.length) w' ∧ w.grownBy w' v.ownBlock := by
  by_cases hz : xs.length = 0
  · obtain rfl : xs = [] := List.eq_nil_of_length_eq_zero hz
    have HO : Hid (OwnV B v [] w) := hown
    obtain ⟨a, cap, rfl⟩ := hown.row.slice
    clear hown hz
    simp only [List.length_nil]
    go_enter Try.func15, Try.ntmps15
    go_wp2
    go_loop [1, 5] (fun kv iv => kv = .int .i64 k0 ∧ iv = .int .i64 0) (fun _ _ => 0)
    case atStart => exact ⟨rfl, rfl⟩
    case round =>
      obtain ⟨rfl, rfl⟩ := hrel
      go_wp2
      go_ret
      exact ⟨rfl, HO.out, World.grownBy.refl _ _⟩
  · obtain ⟨g, cap, rfl, hBg, hgl⟩ := World.ownsRow.form hown (by omega)
    have HO : Hid (OwnV B (.slice (some ⟨g, 0, none⟩) xs.length cap) xs w) := hown
    clear hown
    go_enter Try.func15, Try.ntmps15
    go_wp2
    go_loopw [1, 5] (fun kv iv wr => ∃ i : Nat, kv = .int .i64 ((k0 + 2 * i : Nat) : Int) ∧ iv = .int .i64 i ∧ i ≤ xs.length ∧ OwnV B (.slice (some ⟨g, 0, none⟩) xs.length cap) (vmarks k0 i ++ xs.drop i) wr ∧ w.grownBy wr (some g)) (fun _ iv _ => xs.length - (intOf iv).toNat)
    case atStart => exact ⟨0, rfl, rfl, Nat.zero_le _, by simpa [vmarks] using HO.out, World.grownBy.refl _ _⟩
    case round =>
      obtain ⟨i, rfl, rfl, hi, hown, hgr⟩ := hrel
      have HW : Hid (OwnV B (.slice (some ⟨g, 0, none⟩) xs.length cap) (vmarks k0 i ++ xs.drop i) wr) := hown
      have HG : Hid (w.grownBy wr (some g)) := hgr
      have hyl : (vmarks k0 i ++ xs.drop i).length = xs.length := by rw [List.length_append, vmarks_len, List.length_drop]; omega
      clear hown hgr
      by_cases hlt : i < xs.length
      · go_wp2_with fail
        refine (mark_any (k0 + 2 * i) _ (by omega) (by omega)).mono ?_
        rintro e w1 ⟨rfl, hb1⟩
        have O1 : w1.ownsRow B 40 2 (.slice (some ⟨g, 0, none⟩) xs.length cap) xs.length (vv (vmarks k0 i ++ xs.drop i)) := by
          have := own_below HW.out hb1
          rwa [hyl] at this
        obtain ⟨c0, hc0, f0⟩ := own_cell O1 (i * 2) (by omega)
        obtain ⟨c1, hc1, f1⟩ := own_cell O1 (i * 2 + 1) (by omega)
        have HO1 : Hid (w1.ownsRow B 40 2 (.slice (some ⟨g, 0, none⟩) xs.length cap) xs.length (vv (vmarks k0 i ++ xs.drop i))) := O1
        have HG1 : Hid (w.grownBy w1 (some g)) := ⟨hb1.os.trans HG.out.os, hb1.tape.trans HG.out.tape, hb1.output.trans HG.out.output, Nat.le_trans HG.out.size hb1.size, fun j hj hr => (hb1.block j (Nat.lt_of_lt_of_le hj HG.out.size)).trans (HG.out.block j hj hr)⟩
        clear O1 hb1
        have e1 : ((k0 + 2 * i : Nat) : Int) + 1 = ((k0 + 2 * i + 1 : Nat) : Int) := by omega
        have HN : Hid (str (markB (k0 + 2 * i)) = (vmark k0 i).1) := rfl
        generalize str (markB (k0 + 2 * i)) = T at *
        go_wp2
        go_roundw
        case rel =>
          have s1 := World.ownsRow.stored HO1.out (i * 2) (.string T)
          have s2 := World.ownsRow.stored s1.1 (i * 2 + 1) (.int .i64 ((k0 + 2 * i + 1 : Nat) : Int))
          refine ⟨i + 1, congrArg (Value.int .i64) (by omega), by go_num, by omega, ?_, ?_⟩
          · rw [← marks_set k0 i xs hlt]
            have e2 := vv_set (vmarks k0 i ++ xs.drop i) i (vmark k0 i) (by omega)
            unfold OwnV
            rw [List.length_set, hyl, e2, ← HN.out]
            exact s2.1
          · have t1 := s1.2
            have t2 := s2.2
            exact ⟨t2.os.trans (t1.os.trans HG1.out.os), t2.tape.trans (t1.tape.trans HG1.out.tape), t2.output.trans (t1.output.trans HG1.out.output), Nat.le_trans HG1.out.size (Nat.le_trans t1.size t2.size), fun j hj hr => (t2.block j (Nat.lt_of_lt_of_le hj (Nat.le_trans HG1.out.size t1.size)) hr).trans ((t1.block j (Nat.lt_of_lt_of_le hj HG1.out.size) hr).trans (HG1.out.block j hj hr))⟩
        case measure => simp [intOf]; omega
      · obtain rfl : i = xs.length := by omega
        have HF : Hid (OwnV B (.slice (some ⟨g, 0, none⟩) xs.length cap) (vmarks k0 xs.length) wr) := by
          have := HW.out
          rwa [List.drop_length, List.append_nil] at this
        clear HW
        go_wp2
        go_ret
        exact ⟨rfl, HF.out, HG.out⟩

set_option maxHeartbeats 1600000 in
theorem heldVarS_any (v : Value) (n k0 : Nat) (w : World) (hn : n ≤ 10000000) (h0 : 0 < k0) (h1 : k0 ≤ 100000000) (h : VRow w v (vmarks k0 n)) :
    Calls Try.prog 17 #[v, .int .i64 k0] w fun e w' => e = .returned (.int .i64 ((k0 + 2 * n : Nat) : Int)) ∧ Below w.heap.size w w' := by
  have HR : Hid (VRow w v (vmarks k0 n)) := h
  obtain ⟨a, cap, rfl⟩ := h.slice
  clear h
  rw [vmarks_len] at HR ⊢
  go_enter Try.func17, Try.ntmps17
  go_wp2
  go_loopw [1, 5] (fun kv iv wr => ∃ i : Nat, kv = .int .i64 ((k0 + 2 * i : Nat) : Int) ∧ iv = .int .i64 i ∧ i ≤ n ∧ Below w.heap.size w wr) (fun _ iv _ => n - (intOf iv).toNat)
  case atStart => exact ⟨0, rfl, rfl, Nat.zero_le _, Below.refl _ _⟩
  case round =>
    obtain ⟨i, rfl, rfl, hi, hb⟩ := hrel
    have HB : Hid (Below w.heap.size w wr) := hb
    have HRr : Hid (VRow wr (.slice a n cap) (vmarks k0 n)) := HR.out.below hb
    clear hb
    by_cases hlt : i < n
    · obtain ⟨b, off, rfl, hc1, hc2⟩ := HRr.out.at (k := i) (by rw [vmarks_len]; exact hlt)
      rw [vmarks_at] at hc1 hc2
      have hc2' : wr.cell? ⟨b, off + i * 2 + 1, none⟩ = some (.int .i64 ((k0 + 2 * i + 1 : Nat) : Int)) := hc2
      have hc1' : wr.cell? ⟨b, off + i * 2, none⟩ = some (.string (str (markB (k0 + 2 * i)))) := hc1
      have HM : Hid (∀ W, _) := fun W => mark_any (k0 + 2 * i) W (by omega) (by omega)
      clear hc1 hc2
      generalize str (markB (k0 + 2 * i)) = T at *
      have i4 : (i : Int) < (n : Int) := by omega
      go_wp2
      go_region_held3 (fun W => W.cell? ⟨b, off + i * 2, none⟩ = some (.string T)) ((first | go_keep | exact cell_keep (W := wr.drew) hc1' hb2))
        ((first | (go_at_call 23; refine (HM.out _).mono ?_; rintro e w2 ⟨rfl, hb2⟩)))
      have hc3 : w2.cell? ⟨b, off + i * 2 + 1, none⟩ = some (.int .i64 ((k0 + 2 * i + 1 : Nat) : Int)) := cell_keep (W := wr.drew) hc2' hb2
      have HB2 : Hid (Below w.heap.size w w2) := HB.out.trans ((bel_of_drew hb2).mono HB.out.size)
      clear hb2
      go_wp2
      go_roundw
      case rel => exact ⟨i + 1, congrArg (Value.int .i64) (by omega), by go_num, by omega, HB2.out⟩
      case measure => simp [intOf]; omega
    · obtain rfl : i = n := by omega
      go_wp2
      go_ret
      exact ⟨rfl, HB.out⟩

end Go.Proofs.Ytneobgikailhjab
