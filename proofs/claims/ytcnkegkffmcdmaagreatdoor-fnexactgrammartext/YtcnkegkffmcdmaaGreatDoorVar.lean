/- The bytes of a number: what the two functions that write a number answer, at every number of 0 .. 1000000000. -/
import Derived.Test.YtcnkegkffmcdmaaGreatDoorRows
import Derived.Test.YtcnkegkffmcdmaaGreatDoorVRow
namespace Go.Proofs.YtcnkegkffmcdmaaGreatDoor
open Go.RowKit

theorem Tryz.info5 : (Tryz.prog.info? 5).map (fun i => (i.zero, i.size, i.bytes)) = some (some (.int .u8 0), 1, 1) := by kernel_rfl

/-- What holds at each round's head: pre is written, m is left. -/
def VarRel (n base : Nat) (w : World) (nv out : Value) (wr : World) : Prop :=
  ∃ (m : Nat) (pre : List UInt8), nv = .int .i64 m ∧ m ≤ n ∧ pre ++ varB m = varB n ∧ wr.ownsRow base 5 1 out pre.length (bv pre) ∧ Below base w wr ∧ base ≤ wr.heap.size

theorem varRel_step {n base m : Nat} {pre : List UInt8} {w wr w1 : World} {out v' : Value} (hm : 127 < m) (hmn : m ≤ n) (hp : pre ++ varB m = varB n)
    (hown : wr.ownsRow base 5 1 out pre.length (bv pre)) (hbel : Below base w wr) (hsz : base ≤ wr.heap.size) {o : Obj}
    (hown' : w1.ownsRow base 5 1 v' (pre.length + 1) (bv pre ++ [.int .u8 ((m : Int) % 128 + 128)])) (hgrow : (wr.alloc o).grownBy w1 out.ownBlock) :
    VarRel n base w (.int .i64 ((m : Int) / 128)) v' w1 := by
  refine ⟨m / 128, pre ++ [UInt8.ofNat (m % 128 + 128)], by simp, by omega, ?_, ?_, ?_, ?_⟩
  · rw [← hp, varB_more m hm]; simp
  · rw [bv_app, bv_one, toNat_ofNat _ (by omega), List.length_append]
    simpa using hown'
  · exact (hbel.alloc hsz o).grown hgrow (by simp; omega) (fun k hk => (hown.lt k hk).1)
  · have := hgrow.size; simp at this; omega

theorem varRel_end {n base m : Nat} {pre : List UInt8} {w wr w1 : World} {out v' : Value} (hm : m ≤ 127) (hp : pre ++ varB m = varB n)
    (hown : wr.ownsRow base 5 1 out pre.length (bv pre)) (hbel : Below base w wr) (hsz : base ≤ wr.heap.size) {o : Obj}
    (hown' : w1.ownsRow base 5 1 v' (pre.length + 1) (bv pre ++ [.int .u8 (m : Int)])) (hgrow : (wr.alloc o).grownBy w1 out.ownBlock) :
    w1.ownsRow base 5 1 v' (varB n).length (bv (varB n)) ∧ Below base w w1 := by
  refine ⟨?_, ?_⟩
  · rw [← hp, varB_last m hm, bv_app, bv_one, toNat_ofNat _ (by omega), List.length_append]
    simpa using hown'
  · exact (hbel.alloc hsz o).grown hgrow (by simp; omega) (fun k hk => (hown.lt k hk).1)

set_option maxHeartbeats 400000 in
set_option maxRecDepth 100000 in
theorem l01Var_any (n : Nat) (w : World) (hn : n ≤ 1000000000) :
    Calls Tryz.prog 11 #[.int .i64 n] w fun e w' => e = .returned (.string (str (varB n))) ∧ Below w.heap.size w w' := by
  obtain ⟨i0, hi, hz0, hz1, hz2⟩ := info_parts Tryz.info5
  go_enter Tryz.func11, Tryz.ntmps11
  go_wp2
  go_loopw [0, 3] (fun nv out wr => VarRel n w.heap.size w nv out wr) (fun nv _ _ => (intOf nv).toNat)
  case atStart => exact ⟨n, [], rfl, Nat.le_refl _, rfl, World.ownsRow_made _ _ _ (Nat.le_refl _) (by decide) rfl, (Below.refl _ _).alloc (Nat.le_refl _) _, by simp⟩
  case round =>
    obtain ⟨m, pre, rfl, hmn, hp, hown, hbel, hsz⟩ := hrel
    have hlen : pre.length ≤ 1000000001 := by
      have h1 := varB_len n
      have h2 := congrArg List.length hp
      rw [List.length_append] at h2
      omega
    have HP : Hid (pre ++ varB m = varB n) := hp
    clear hp
    by_cases hm : 127 < m
    · go_wp2_with (at_builtin; refine wpList_append_own _ rfl _ _ 48 rfl w.heap.size 5 i0 (.int .u8 0) 1 1 Tryz.underlying48 hi hz0 hz1 hz2 rfl (by decide) _ _ _ rfl (hown.alloc _) ⟨wr.heap.size, 0, none⟩ 1 1 [.int .u8 ((m : Int) % 128 + 128)] rfl rfl (one_at _ _ _) (one_cell _ _) (by unfold maxLen; omega) (by omega) (by simp; omega) ?_)
      intro v' w1 hown' hgrow _
      have R := varRel_step hm hmn HP.out hown hbel hsz hown' hgrow
      clear hown' hgrow hown hbel
      go_wp2
      go_roundw
      case rel => exact R
      case measure => simp [intOf]; omega
    · go_wp2_with (at_builtin; refine wpList_append_own _ rfl _ _ 48 rfl w.heap.size 5 i0 (.int .u8 0) 1 1 Tryz.underlying48 hi hz0 hz1 hz2 rfl (by decide) _ _ _ rfl (hown.alloc _) ⟨wr.heap.size, 0, none⟩ 1 1 [.int .u8 (m : Int)] rfl rfl (one_at _ _ _) (one_cell _ _) (by unfold maxLen; omega) (by omega) (by simp; omega) ?_)
      intro v' w1 hown' hgrow _
      have hfin := varRel_end (by omega) HP.out hown hbel hsz hown' hgrow
      have hcv := own_string (P := Tryz.prog) (dst := 9) (varB n) Tryz.underlying48 Tryz.underlying5 Tryz.underlying9 hfin.1
      go_wp2
      go_ret
      exact ⟨rfl, hfin.2⟩

set_option maxHeartbeats 400000 in
set_option maxRecDepth 100000 in
theorem implVar_yes (n : Nat) (w : World) (hn : n ≤ 1000000000) :
    Calls Tryz.prog 54 #[.int .i64 n] w fun e w' => e = .returned (.tuple #[.string (str (varB n)), .bool true]) ∧ Below w.heap.size w w' := by
  obtain ⟨i0, hi, hz0, hz1, hz2⟩ := info_parts Tryz.info5
  go_enter Tryz.func54, Tryz.ntmps54
  go_wp2
  go_loopw [0, 4] (fun nv out wr => VarRel n w.heap.size w nv out wr) (fun nv _ _ => (intOf nv).toNat)
  case atStart => exact ⟨n, [], rfl, Nat.le_refl _, rfl, World.ownsRow_nil _ _ _ _, Below.refl _ _, Nat.le_refl _⟩
  case round =>
    obtain ⟨m, pre, rfl, hmn, hp, hown, hbel, hsz⟩ := hrel
    have hlen : pre.length ≤ 1000000001 := by
      have h1 := varB_len n
      have h2 := congrArg List.length hp
      rw [List.length_append] at h2
      omega
    have HP : Hid (pre ++ varB m = varB n) := hp
    clear hp
    by_cases hm : 127 < m
    · go_wp2_with (at_builtin; refine wpList_append_own _ rfl _ _ 48 rfl w.heap.size 5 i0 (.int .u8 0) 1 1 Tryz.underlying48 hi hz0 hz1 hz2 rfl (by decide) _ _ _ rfl (hown.alloc _) ⟨wr.heap.size, 0, none⟩ 1 1 [.int .u8 ((m : Int) % 128 + 128)] rfl rfl (one_at _ _ _) (one_cell _ _) (by unfold maxLen; omega) (by omega) (by simp; omega) ?_)
      intro v' w1 hown' hgrow _
      have R := varRel_step hm hmn HP.out hown hbel hsz hown' hgrow
      clear hown' hgrow hown hbel
      go_wp2
      go_roundw
      case rel => exact R
      case measure => simp [intOf]; omega
    · go_wp2_with (at_builtin; refine wpList_append_own _ rfl _ _ 48 rfl w.heap.size 5 i0 (.int .u8 0) 1 1 Tryz.underlying48 hi hz0 hz1 hz2 rfl (by decide) _ _ _ rfl (hown.alloc _) ⟨wr.heap.size, 0, none⟩ 1 1 [.int .u8 (m : Int)] rfl rfl (one_at _ _ _) (one_cell _ _) (by unfold maxLen; omega) (by omega) (by simp; omega) ?_)
      intro v' w1 hown' hgrow _
      have hfin := varRel_end (by omega) HP.out hown hbel hsz hown' hgrow
      have hcv := own_string (P := Tryz.prog) (dst := 9) (varB n) Tryz.underlying48 Tryz.underlying5 Tryz.underlying9 hfin.1
      go_wp2
      go_ret2
      exact ⟨rfl, hfin.2⟩

theorem implVar_no (n : Int) (w : World) (hn : n < 0 ∨ 1000000000 < n) :
    Calls Tryz.prog 54 #[.int .i64 n] w fun e w' => e = .returned (.tuple #[.string (str []), .bool false]) ∧ w' = w := by
  by_cases h : n < 0
  · go_enter Tryz.func54, Tryz.ntmps54
    go_wp2
    go_ret2
    exact ⟨rfl, rfl⟩
  · have h1 : 1000000000 < n := by omega
    go_enter Tryz.func54, Tryz.ntmps54
    go_wp2
    go_ret2
    exact ⟨rfl, rfl⟩

theorem l01Var_int (x : Int) (w : World) (h0 : 0 ≤ x) (h1 : x ≤ 1000000000) :
    Calls Tryz.prog 11 #[.int .i64 x] w fun e w' => e = .returned (.string (str (varB x.toNat))) ∧ Below w.heap.size w w' := by
  obtain ⟨n, rfl⟩ := Int.eq_ofNat_of_zero_le h0
  rw [Int.toNat_natCast]
  exact l01Var_any n w (by omega)

theorem l01In_any (x a b : Int) (w : World) :
    Calls Tryz.prog 22 #[.int .i64 x, .int .i64 a, .int .i64 b] w fun e w' => e = .returned (.bool (decide (a ≤ x ∧ x ≤ b))) ∧ w' = w := by
  by_cases h : a ≤ x
  · by_cases h2 : x ≤ b
    all_goals
      go_enter Tryz.func22, Tryz.ntmps22
      go_wp2
      go_ret
      exact ⟨by simp [h, h2], rfl⟩
  · go_enter Tryz.func22, Tryz.ntmps22
    go_wp2
    go_ret
    exact ⟨by simp; omega, rfl⟩

end Go.Proofs.YtcnkegkffmcdmaaGreatDoor
