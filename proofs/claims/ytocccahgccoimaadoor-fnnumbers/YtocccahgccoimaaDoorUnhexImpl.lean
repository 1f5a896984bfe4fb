/- What the program's function that reads figures answers, and the law on it. -/
import Derived.Test.YtocccahgccoimaaDoorUnhex
import Derived.WalkMore
namespace Go.Proofs.YtocccahgccoimaaDoor
open Go.RowKit

theorem idx_any (b : UInt8) (w : World) :
    Calls Tryd.prog 23 #[.string { data := #[48, 49, 50, 51, 52, 53, 54, 55, 56, 57, 97, 98, 99, 100, 101, 102] }, .int .u8 b.toNat] w fun e w' => e = .returned (.int .i64 (valI b.toNat)) ∧ w' = w := by
  refine (Tryd.strings_IndexByte _ _ _).mono ?_
  rintro e w' ⟨rfl, rfl⟩
  refine ⟨?_, rfl⟩
  have h := index_figs b
  have e1 : ((b.toNat : Int).toNat).toUInt8 = b := by simp
  rw [e1]
  exact congrArg (fun z => Ending.returned (Value.int .i64 z)) h

/-- What holds at each round's head of the program's loop. -/
def UiSlots (s : ByteArray) (base : Nat) (w : World) (out hv iv : Value) (wr : World) : Prop :=
  ∃ (i q g cap : Nat) (h : Int) (pre : List UInt8), iv = .int .i64 i ∧ hv = .int .i64 h ∧ out = .slice (some ⟨g, 0, none⟩) q cap ∧ i ≤ s.size ∧ pre.length = q ∧ UnRel s.data.toList pre ∧
    (i = 2 * q ∨ (i = 2 * q + 1 ∧ ∃ hj : 2 * q < s.size, h = valI s[2 * q].toNat)) ∧ 0 ≤ h ∧ h < 16 ∧
    wr.ownsRow base 5 1 (.slice (some ⟨g, 0, none⟩) q cap) q (bv pre) ∧ Below base w wr ∧ base ≤ wr.heap.size

theorem uiSlots_pair {s : ByteArray} {base q g cap : Nat} {h : Int} {pre : List UInt8} {w wr w1 : World} {v : Value} (hu : UnRel s.data.toList pre) (hq : pre.length = q) (h0 : 2 * q < s.size) (h1 : 2 * q + 1 < s.size)
    (hh : h = valI s[2 * q].toNat) (h2 : 0 ≤ h) (h3 : 0 ≤ valI s[2 * q + 1].toNat)
    (hown : wr.ownsRow base 5 1 v q (bv pre)) (hbel : Below base w wr) (hsz : base ≤ wr.heap.size) {o : Obj}
    (hown' : w1.ownsRow base 5 1 (.slice (some ⟨g, 0, none⟩) (q + 1) cap) (q + 1) (bv pre ++ [.int .u8 (h * 16 + valI s[2 * q + 1].toNat)])) (hgrow : (wr.alloc o).grownBy w1 v.ownBlock) :
    UiSlots s base w (.slice (some ⟨g, 0, none⟩) (q + 1) cap) (.int .i64 h) (.int .i64 (2 * (q : Int) + 1 + 1)) w1 := by
  subst hh
  have hl : s.data.toList.length = s.size := by simp
  have e := un_step hu (i := 2 * q) (by rw [hq]) (by rw [hl]; exact h1) (by rw [get_list2 s _ h0]; exact h2) (by rw [get_list2 s (2 * q + 1) h1]; exact h3)
  rw [get_list2 s _ h0, get_list2 s (2 * q + 1) h1] at e
  have hb := valI_lt s[2 * q].toNat
  refine ⟨2 * q + 2, q + 1, g, cap, _, _, ?_, rfl, rfl, by omega, ?_, e, .inl (by omega), h2, hb.1, ?_, ?_, ?_⟩
  · refine congrArg (Value.int .i64) ?_
    omega
  · rw [List.length_append, List.length_singleton, hq]
  · rw [bv_app, bv_one, byte_of_pair _ _ h2 h3, Int.mul_comm]
    exact hown'
  · exact (hbel.alloc hsz o).grown hgrow (by simp; omega) (fun k hk => (hown.lt k hk).1)
  · have := hgrow.size; simp at this; omega

set_option maxHeartbeats 1600000 in
set_option maxRecDepth 100000 in
theorem implUnhex_yes (s : ByteArray) (w : World) (hs : s.size ≤ 40000) :
    Calls Tryd.prog 14 #[.string s] w fun e w' => e = .returned (unVal s) ∧ Below w.heap.size w w' := by
  obtain ⟨i0, hi, hz0, hz1, hz2⟩ := info_parts Tryd.info5
  have HL : Hid (s.data.toList.length = s.size) := by simp [Hid]
  go_enter Tryd.func14, Tryd.ntmps14
  go_wp2
  go_step3
  go_wp2_with (at_make; refine wpList_make_own _ rfl _ _ 22 rfl w.heap.size 5 i0 (.int .u8 0) 1 Tryd.underlying22 hi hz0 hz1 _ _ _ (s.size / 2) rfl rfl (by simp) (by rw [hz2]; omega) (by unfold maxLen; omega) (Nat.le_refl _) ?_; intro w0 hown0 hgrow0)
  go_step3
  go_wp2
  go_loopw [4, 5, 17] (fun out hv iv wr => UiSlots s w.heap.size w out hv iv wr) (fun _ _ iv _ => s.size - (intOf iv).toNat)
  case atStart => exact ⟨0, 0, _, _, 0, [], rfl, rfl, rfl, Nat.zero_le _, rfl, un_start _, .inl rfl, by omega, by omega, hown0, (Below.refl _ _).grown hgrow0 (Nat.le_refl _) (by simp), hgrow0.size⟩
  case round =>
    obtain ⟨i, q, g, cap, h, pre, rfl, rfl, rfl, hile, hq, hu, hpar, hh0, hh1, hown, hbel, hsz⟩ := hrel
    have HU : Hid (UnRel s.data.toList pre) := hu
    have HQ : Hid (pre.length = q) := hq
    clear hu hq
    by_cases hlt : i < s.size
    · obtain ⟨b3, b4⟩ := valI_lt s[i].toNat
      by_cases h1 : 0 ≤ valI s[i].toNat
      · rcases hpar with hpar | ⟨hpar, hj, hh⟩
        · have HP : Hid (i = 2 * q) := hpar
          have p1 : i ≤ 2 * q := by omega
          have p2 : 2 * q ≤ i := by omega
          clear hpar
          have p3 : ((i : Int) % 2 == 0) = true := by simp; omega
          have R : UiSlots s w.heap.size w (.slice (some ⟨g, 0, none⟩) q cap) (.int .i64 (valI s[i].toNat)) (.int .i64 ((i : Int) + 1)) wr := ⟨i + 1, q, g, cap, _, pre, by simp, rfl, rfl, by omega, HQ.out, HU.out, .inr ⟨by omega, by omega, by rw [getElem_congr rfl HP.out]⟩, h1, b3, hown, hbel, hsz⟩
          go_wp2_with (go_at_call 23; refine (idx_any _ _).mono ?_; rintro e wq ⟨rfl, hw⟩; rw [hw]; clear hw)
          go_roundw
          case rel => exact R
          case measure => simp [intOf]; omega
        · have p1 : i ≤ 2 * q + 1 := by omega
          have p2 : 2 * q + 1 ≤ i := by omega
          subst hpar
          have p3 : (((2 * q + 1 : Nat) : Int) % 2 == 0) = false := by simp
          have HH : Hid (h = valI s[2 * q].toNat) := hh
          clear hh
          go_wp2_with (first | (go_at_call 23; refine (idx_any _ _).mono ?_; rintro e wq ⟨rfl, hw⟩; rw [hw]; clear hw) | (at_builtin; refine wpList_append_lies _ rfl _ _ 22 rfl w.heap.size 5 i0 (.int .u8 0) 1 1 Tryd.underlying22 hi hz0 hz1 hz2 rfl (by decide) _ _ _ rfl (hown.alloc _) ⟨wr.heap.size, 0, none⟩ 1 1 [.int .u8 (h * 16 + valI s[2 * q + 1].toNat)] rfl rfl (one_at _ _ _) (one_cell _ _) (by omega) (by unfold maxLen; omega) (by omega) (by simp; omega) (wr.heap.size + 1) (by simp) ?_))
          intro gg cap' w1 hown' hgrow _ _
          have R := uiSlots_pair HU.out HQ.out hj hlt HH.out hh0 h1 hown hbel hsz hown' hgrow
          clear hown' hgrow hown hbel
          go_wp2
          go_roundw
          case rel => exact R
          case measure => simp [intOf]; omega
      · have HE : Hid (unB s.data.toList = none) := by
          rcases hpar with hpar | ⟨hpar, _⟩
          · exact un_bad1 (i := i) HU.out (by rw [HQ.out]; exact hpar) (by rw [HL.out]; exact hlt) (by rw [get_list2 s _ hlt]; omega)
          · exact un_bad2 (i := i) HU.out (by rw [HQ.out]; exact hpar) (by rw [HL.out]; exact hlt) (by rw [get_list2 s _ hlt]; omega)
        have p1 : 2 * q < s.size := by omega
        clear hpar
        go_wp2_with (go_at_call 23; refine (idx_any _ _).mono ?_; rintro e wq ⟨rfl, hw⟩; rw [hw]; clear hw)
        rw [Exit.noGoto_ret]
        go_ret2
        exact ⟨congrArg _ (unVal_none HE.out).symm, hbel⟩
    · obtain rfl : i = s.size := by omega
      rcases hpar with hpar | ⟨hpar, _⟩
      · have HE : Hid (_ = _) := un_end HU.out (by rw [HL.out, HQ.out]; exact hpar)
        have p1 : s.size ≤ 2 * q := by omega
        have p2 : 2 * q ≤ s.size := by omega
        have p3 : ((2 * (q : Int)) != (s.size : Int)) = false := by simp; omega
        clear hpar
        have hown2 := hown
        rw [← HQ.out] at hown2
        have hcv := own_string (P := Tryd.prog) (dst := 9) pre Tryd.underlying22 Tryd.underlying5 Tryd.underlying9 hown2
        rw [HQ.out] at hcv
        clear hown2
        go_wp2
        rw [Exit.noGoto_ret]
        go_ret2
        exact ⟨congrArg _ (unVal_some HE.out).symm, hbel⟩
      · have HE : Hid (_ = _) := unB_odd q s.data.toList (by rw [HL.out]; exact hpar)
        have p1 : s.size ≤ 2 * q + 1 := by omega
        have p2 : 2 * q + 1 ≤ s.size := by omega
        have p3 : ((2 * (q : Int)) != (s.size : Int)) = true := by simp; omega
        clear hpar
        go_wp2
        rw [Exit.noGoto_ret]
        go_ret2
        exact ⟨congrArg _ (unVal_none HE.out).symm, hbel⟩

theorem implUnhex_no (s : ByteArray) (w : World) (hs : 40000 < s.size) :
    Calls Tryd.prog 14 #[.string s] w fun e w' => e = .returned (.tuple #[.string (str []), .bool false]) ∧ w' = w := by
  have hs1 : (40000 : Int) < s.size := by omega
  go_enter Tryd.func14, Tryd.ntmps14
  go_wp2
  go_step3
  go_wp2
  rw [Exit.noGoto_ret]
  go_ret2
  exact ⟨rfl, rfl⟩


theorem unVal_form (s : ByteArray) : ∃ t b, unVal s = .tuple #[.string t, .bool b] := by
  rw [unVal]
  split
  · exact ⟨_, _, rfl⟩
  · exact ⟨_, _, rfl⟩


end Go.Proofs.YtocccahgccoimaaDoor
