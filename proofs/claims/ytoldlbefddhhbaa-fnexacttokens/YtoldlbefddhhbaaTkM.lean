/- The laws' own helpers on lists of tokens: compared, marked, and the marks looked for again. -/
import Derived.Test.YtoldlbefddhhbaaTkT
import Derived.Test.YtoldlbefddhhbaaMark
namespace Go.Proofs.Ytoldlbefddhhbaa
open Go.RowKit
set_option linter.unusedVariables false

def tmark (k : Nat) (j : Nat) : TokD := ⟨((k + 2 * j : Nat) : Int), str (markB (k + 2 * j + 1))⟩
def tmarks (k n : Nat) : List TokD := (List.range n).map (tmark k)
theorem tmarks_len (k n : Nat) : (tmarks k n).length = n := by simp [tmarks]
theorem tmarks_next (k n : Nat) : tmarks k (n + 1) = tmarks k n ++ [tmark k n] := by simp [tmarks, List.range_succ]
theorem tmarks_at (k n i : Nat) (h : i < (tmarks k n).length) : (tmarks k n)[i] = tmark k i := by simp [tmarks]
theorem tmarks_set (k i : Nat) (xs : List TokD) (h : i < xs.length) : (tmarks k i ++ xs.drop i).set i (tmark k i) = tmarks k (i + 1) ++ xs.drop (i + 1) := by
  rw [tmarks_next, List.set_append_right _ _ (by rw [tmarks_len]; exact Nat.le_refl _), tmarks_len, Nat.sub_self]
  rw [List.append_assoc]
  congr 1
  rw [List.drop_eq_getElem_cons h]
  rfl

theorem eqToken_same (k : Int) (t : ByteArray) (w : World) :
    Calls Try.prog 15 #[.agg #[.int .i64 k, .string t], .agg #[.int .i64 k, .string t]] w fun e w' => e = .returned (.bool true) ∧ Below w.heap.size w w' := by
  have hb := beq_yes (rfl : t = t)
  go_enter Try.func15, Try.ntmps15
  go_wp2
  go_ret
  exact ⟨rfl, ((Below.refl _ _).alloc (Nat.le_refl _) _).alloc (by simp) _⟩

set_option maxHeartbeats 1600000 in
theorem eqTokenS_same (u v : Value) (xs : List TokD) (w : World) (hx : xs.length ≤ 2097153) (h : TokR w u xs) (h' : TokR w v xs) :
    Calls Try.prog 7 #[u, v] w fun e w' => e = .returned (.bool true) ∧ Below w.heap.size w w' := by
  have HX : Hid (TokR w u xs) := h
  have HY : Hid (TokR w v xs) := h'
  obtain ⟨a, cap, rfl⟩ := RowC.slice h
  obtain ⟨a', cap', rfl⟩ := RowC.slice h'
  clear h h'
  go_enter Try.func7, Try.ntmps7
  go_wp2
  go_loopw [5] (fun iv wr => ∃ k : Nat, iv = .int .i64 k ∧ k ≤ xs.length ∧ Below w.heap.size w wr) (fun iv _ => xs.length - (intOf iv).toNat)
  case atStart => exact ⟨0, rfl, Nat.zero_le _, Below.refl _ _⟩
  case round =>
    obtain ⟨k, rfl, hk, hb⟩ := hrel
    have HB : Hid (Below w.heap.size w wr) := hb
    have HXr : Hid (TokR wr (.slice a xs.length cap) xs) := HX.out.below hb
    have HYr : Hid (TokR wr (.slice a' xs.length cap') xs) := HY.out.below hb
    clear hb
    by_cases hlt : k < xs.length
    · obtain ⟨b, off, rfl, hc1, hc2⟩ := HXr.out.at hlt
      obtain ⟨b', off', rfl, hc3, hc4⟩ := HYr.out.at hlt
      have i4 : (k : Int) < (xs.length : Int) := by omega
      have HE : Hid (∀ W, _) := eqToken_same xs[k].kind xs[k].text
      generalize xs[k].kind = K at *
      generalize xs[k].text = T at *
      go_wp2
      go_region_held3 (fun W => W.cell? ⟨b, off + k * 2, none⟩ = some (.int .i64 K) ∧ W.cell? ⟨b, off + k * 2 + 1, none⟩ = some (.string T) ∧ W.cell? ⟨b', off' + k * 2, none⟩ = some (.int .i64 K) ∧ W.cell? ⟨b', off' + k * 2 + 1, none⟩ = some (.string T)) ((first | go_keep | exact cells_keep4 (by assumption) (by assumption)))
        ((first | (go_at_call 15; refine (HE.out _).mono ?_; rintro e w2 ⟨rfl, hb2⟩)))
      have HB2 : Hid (Below w.heap.size w w2) := HB.out.trans ((bel_of_drew hb2).mono HB.out.size)
      clear hb2
      go_wp2
      go_roundw
      case rel => exact ⟨k + 1, by go_num, by omega, HB2.out⟩
      case measure => simp [intOf]; omega
    · obtain rfl : k = xs.length := by omega
      go_wp2
      go_ret
      exact ⟨rfl, HB.out⟩

theorem mark_next (K : Nat) (w : World) (h1 : K ≤ 999999999) :
    Calls Try.prog 16 #[.int .i64 ((K : Int) + 1)] w fun e w' => e = .returned (.string (str (markB (K + 1)))) ∧ Below w.heap.size w w' := by
  have := mark_any (K + 1) w (by omega) (by omega)
  rwa [show ((K + 1 : Nat) : Int) = (K : Int) + 1 by omega] at this

set_option maxHeartbeats 1600000 in
theorem markTokenS_any (B : Nat) (v : Value) (xs : List TokD) (k0 : Nat) (w : World) (hn : xs.length ≤ 10000000) (h0 : 0 < k0) (h1 : k0 ≤ 100000000) (hown : OwnT B v xs w) :
    Calls Try.prog 8 #[v, .int .i64 k0] w fun e w' => e = .returned (.int .i64 ((k0 + 2 * xs.length : Nat) : Int)) ∧ OwnT B v (tmarks k0 xs.length) w' ∧ w.grownBy w' v.ownBlock := by
  by_cases hz : xs.length = 0
  · obtain rfl : xs = [] := List.eq_nil_of_length_eq_zero hz
    have HO : Hid (OwnT B v [] w) := hown
    obtain ⟨a, cap, rfl⟩ := RowC.slice hown.row
    clear hown hz
    simp only [List.length_nil]
    go_enter Try.func8, Try.ntmps8
    go_wp2
    go_loop [1, 5] (fun kv iv => kv = .int .i64 k0 ∧ iv = .int .i64 0) (fun _ _ => 0)
    case atStart => exact ⟨rfl, rfl⟩
    case round =>
      obtain ⟨rfl, rfl⟩ := hrel
      go_wp2
      go_ret
      exact ⟨rfl, HO.out, World.grownBy.refl _ _⟩
  · obtain ⟨g, cap, rfl, hBg, hgl⟩ := World.ownsRow.form hown (by omega)
    have HO : Hid (OwnT B (.slice (some ⟨g, 0, none⟩) xs.length cap) xs w) := hown
    clear hown
    go_enter Try.func8, Try.ntmps8
    go_wp2
    go_loopw [1, 5] (fun kv iv wr => ∃ i K : Nat, K = k0 + 2 * i ∧ kv = .int .i64 (K : Int) ∧ iv = .int .i64 i ∧ i ≤ xs.length ∧ OwnT B (.slice (some ⟨g, 0, none⟩) xs.length cap) (tmarks k0 i ++ xs.drop i) wr ∧ w.grownBy wr (some g)) (fun _ iv _ => xs.length - (intOf iv).toNat)
    case atStart => exact ⟨0, k0, rfl, rfl, rfl, Nat.zero_le _, by simpa [tmarks] using HO.out, World.grownBy.refl _ _⟩
    case round =>
      obtain ⟨i, K, hK, rfl, rfl, hi, hown, hgr⟩ := hrel
      have HK : Hid (K = k0 + 2 * i) := hK
      have hKl : K ≤ 999999999 := by omega
      have HW : Hid (OwnT B (.slice (some ⟨g, 0, none⟩) xs.length cap) (tmarks k0 i ++ xs.drop i) wr) := hown
      have HG : Hid (w.grownBy wr (some g)) := hgr
      have hyl : (tmarks k0 i ++ xs.drop i).length = xs.length := by rw [List.length_append, tmarks_len, List.length_drop]; omega
      clear hown hgr
      by_cases hlt : i < xs.length
      · have O1 : wr.ownsRow B 32 2 (.slice (some ⟨g, 0, none⟩) xs.length cap) xs.length (tv (tmarks k0 i ++ xs.drop i)) := by
          have := HW.out
          unfold OwnT at this
          rwa [hyl] at this
        obtain ⟨c0, hc0, f0⟩ := own_cell O1 (i * 2) (by omega)
        have s1 := World.ownsRow.stored O1 (i * 2) (.int .i64 (K : Int))
        have HS1 : Hid (_) := s1.1
        have HT1 : Hid (_) := s1.2
        clear O1 s1
        clear hK
        go_wp2_with fail
        refine (mark_next K _ hKl).mono ?_
        rintro e w1 ⟨rfl, hb1⟩
        have O2 := own_below HS1.out hb1
        obtain ⟨c1, hc1, f1⟩ := own_cell O2 (i * 2 + 1) (by omega)
        have HO2 : Hid (_) := O2
        have HB1 : Hid (Below _ _ w1) := hb1
        clear O2 hb1
        have HN : Hid (tmark k0 i = ⟨(K : Int), str (markB (K + 1))⟩) := by rw [Hid, HK.out]; rfl
        generalize str (markB (K + 1)) = T at *
        go_wp2
        go_roundw
        case rel =>
          have s2 := World.ownsRow.stored HO2.out (i * 2 + 1) (.string T)
          refine ⟨i + 1, K + 2, by have := HK.out; omega, congrArg (Value.int .i64) (by omega), by go_num, by omega, ?_, ?_⟩
          · rw [← tmarks_set k0 i xs hlt]
            have e3 := tv_set (tmarks k0 i ++ xs.drop i) i (tmark k0 i) (by omega)
            unfold OwnT
            rw [HN.out] at e3 ⊢
            rw [List.length_set, hyl, e3]
            exact s2.1
          · have t1 := HT1.out
            have t2 := s2.2
            have hb := HB1.out
            exact ⟨t2.os.trans (hb.os.trans (t1.os.trans HG.out.os)), t2.tape.trans (hb.tape.trans (t1.tape.trans HG.out.tape)), t2.output.trans (hb.output.trans (t1.output.trans HG.out.output)), Nat.le_trans HG.out.size (Nat.le_trans t1.size (Nat.le_trans hb.size t2.size)), fun j hj hr => (t2.block j (Nat.lt_of_lt_of_le hj (Nat.le_trans HG.out.size (Nat.le_trans t1.size hb.size))) hr).trans ((hb.block j (Nat.lt_of_lt_of_le hj (Nat.le_trans HG.out.size t1.size))).trans ((t1.block j (Nat.lt_of_lt_of_le hj HG.out.size) hr).trans (HG.out.block j hj hr)))⟩
        case measure => simp [intOf]; omega
      · obtain rfl : i = xs.length := by omega
        obtain rfl := hK
        have HF : Hid (OwnT B (.slice (some ⟨g, 0, none⟩) xs.length cap) (tmarks k0 xs.length) wr) := by
          have := HW.out
          rwa [List.drop_length, List.append_nil] at this
        clear HW
        go_wp2
        go_ret
        exact ⟨rfl, HF.out, HG.out⟩

set_option maxHeartbeats 1600000 in
theorem heldTokenS_any (v : Value) (n k0 : Nat) (w : World) (hn : n ≤ 10000000) (h0 : 0 < k0) (h1 : k0 ≤ 100000000) (h : TokR w v (tmarks k0 n)) :
    Calls Try.prog 9 #[v, .int .i64 k0] w fun e w' => e = .returned (.int .i64 ((k0 + 2 * n : Nat) : Int)) ∧ Below w.heap.size w w' := by
  have HR : Hid (TokR w v (tmarks k0 n)) := h
  obtain ⟨a, cap, rfl⟩ := RowC.slice h
  clear h
  rw [tmarks_len] at HR ⊢
  go_enter Try.func9, Try.ntmps9
  go_wp2
  go_loopw [1, 5] (fun kv iv wr => ∃ i K : Nat, K = k0 + 2 * i ∧ kv = .int .i64 (K : Int) ∧ iv = .int .i64 i ∧ i ≤ n ∧ Below w.heap.size w wr) (fun _ iv _ => n - (intOf iv).toNat)
  case atStart => exact ⟨0, k0, rfl, rfl, rfl, Nat.zero_le _, Below.refl _ _⟩
  case round =>
    obtain ⟨i, K, hK, rfl, rfl, hi, hb⟩ := hrel
    have HK : Hid (K = k0 + 2 * i) := hK
    have hKl : K ≤ 999999999 := by omega
    have HB : Hid (Below w.heap.size w wr) := hb
    have HRr : Hid (TokR wr (.slice a n cap) (tmarks k0 n)) := HR.out.below hb
    clear hb
    by_cases hlt : i < n
    · obtain ⟨b, off, rfl, hc1, hc2⟩ := HRr.out.at (k := i) (by rw [tmarks_len]; exact hlt)
      rw [tmarks_at] at hc1 hc2
      have hc1' : wr.cell? ⟨b, off + i * 2, none⟩ = some (.int .i64 (K : Int)) := by rw [hK]; exact hc1
      have hc2' : wr.cell? ⟨b, off + i * 2 + 1, none⟩ = some (.string (str (markB (K + 1)))) := by rw [hK]; exact hc2
      have HM : Hid (∀ W, _) := fun W => mark_next K W hKl
      clear hc1 hc2 hK
      generalize str (markB (K + 1)) = T at *
      have hT := beq_yes (rfl : T = T)
      have i4 : (i : Int) < (n : Int) := by omega
      go_wp2
      go_region_held3 (fun W => W.cell? ⟨b, off + i * 2 + 1, none⟩ = some (.string T)) ((first | go_keep | exact cell_keep (W := wr.drew) hc2' hb2))
        ((first | (go_at_call 16; refine (HM.out _).mono ?_; rintro e w2 ⟨rfl, hb2⟩)))
      have HB2 : Hid (Below w.heap.size w w2) := HB.out.trans ((bel_of_drew hb2).mono HB.out.size)
      clear hb2
      go_wp2
      go_roundw
      case rel => exact ⟨i + 1, K + 2, by have := HK.out; omega, congrArg (Value.int .i64) (by omega), by go_num, by omega, HB2.out⟩
      case measure => simp [intOf]; omega
    · obtain rfl : i = n := by omega
      obtain rfl := hK
      go_wp2
      go_ret
      exact ⟨rfl, HB.out⟩

end Go.Proofs.Ytoldlbefddhhbaa
