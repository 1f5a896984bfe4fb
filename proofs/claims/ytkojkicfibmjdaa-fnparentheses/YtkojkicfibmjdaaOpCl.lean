/- The program's Climb. -/
import Derived.Test.YtkojkicfibmjdaaOpTa
import Derived.Test.YtkojkicfibmjdaaOpTc
import Derived.Test.YtkojkicfibmjdaaOpTd
import Derived.Test.YtkojkicfibmjdaaOpI
import Derived.Test.YtkojkicfibmjdaaOpSg
import Derived.Test.YtkojkicfibmjdaaOpO
namespace Go.Proofs.Ytkojkicfibmjdaa
open Go.RowKit
set_option linter.unusedVariables false

def TakeO (W : World) (xs : List OpD) (a : Option Addr) (cap p N : Nat) (o : Option CmD) (e : Ending) (w : World) : Prop :=
  (o = none ∧ e = .returned (.bool false) ∧ Below W.heap.size W w) ∨ ∃ d, o = some d ∧ e = .returned (.bool true) ∧ TakeP W xs a cap p N d w
theorem take_all (W : World) (xs : List OpD) (a : Option Addr) (cap p N : Nat) (c : CmD) (tv wv : Value) (b : UInt8) (w : World) (ho : opsB xs = true) (hN : N ≤ 11) (hI : Inv13 xs N c) (h : CmB W xs a cap p c tv wv w) :
    Calls Try.prog 18 #[.pointer (some ⟨p, 0, none⟩), .int .u8 (b.toNat : Int)] w fun e w' => TakeO W xs a cap p N (take13 xs b c) e w' := by
  obtain ⟨ts, ws, bh⟩ := c
  cases bh with
  | true =>
    cases hq : (opAt13 xs b).2 with
    | true =>
      refine (takeA W xs a cap p N ts ws tv wv b w ho hN hq hI h).mono ?_
      rintro e w' ⟨he, hP⟩
      exact .inr ⟨_, by simp [take13, hq], he, hP⟩
    | false =>
      have hyp : (opAt13 xs b).1 = par13 := by
        rcases opAt_cases xs b with ⟨h1, _⟩ | ⟨_, e⟩
        · exact h1
        · rw [hq] at e; cases e
      by_cases hb : b = 41
      · subst hb
        cases hw : (bind13 par13 ts ws).2 with
        | nil =>
          refine (takeC0 W xs a cap p N ts ws tv wv 41 w ho hN hq rfl hw hI h).mono ?_
          rintro e w' ⟨he, hb9⟩
          exact .inl ⟨by simp [take13, hq, hyp, hw], he, hb9⟩
        | cons x r =>
          refine (takeC1 W xs a cap p N ts ws tv wv 41 w ho hN hq rfl x r hw hI h).mono ?_
          rintro e w' ⟨he, hP⟩
          exact .inr ⟨_, by simp [take13, hq, hyp, hw], he, hP⟩
      · refine (takeE1 W xs a cap p N ts ws tv wv b w ho hN hq hb h).mono ?_
        rintro e w' ⟨he, hb9⟩
        exact .inl ⟨by simp [take13, hq, hb], he, hb9⟩
  | false =>
    by_cases hb : b = 40
    · subst hb
      refine (takeB W xs a cap p N ts ws tv wv 40 w ho hN rfl hI h).mono ?_
      rintro e w' ⟨he, hP⟩
      exact .inr ⟨_, by simp [take13], he, hP⟩
    · cases hf : fig13 b with
      | true =>
        refine (takeD W xs a cap p N ts ws tv wv b w ho hN hf hI h).mono ?_
        rintro e w' ⟨he, hP⟩
        exact .inr ⟨_, by simp [take13, hb, hf], he, hP⟩
      | false =>
        refine (takeE2 W xs a cap p N ts ws tv wv b w ho hN hb hf h).mono ?_
        rintro e w' ⟨he, hb9⟩
        exact .inl ⟨by simp [take13, hb, hf], he, hb9⟩
theorem whole_all (W : World) (xs : List OpD) (a : Option Addr) (cap p N : Nat) (c : CmD) (tv wv : Value) (w : World) (ho : opsB xs = true) (hN : N ≤ 12) (hI : Inv13 xs N c) (h : CmB W xs a cap p c tv wv w) :
    Calls Try.prog 19 #[.pointer (some ⟨p, 0, none⟩)] w fun e w' => e = .returned (.tuple #[.string ((whole13 c).getD ⟨#[]⟩), .bool (whole13 c).isSome]) ∧ Below W.heap.size W w' := by
  obtain ⟨ts, ws, bh⟩ := c
  cases bh with
  | true => exact whole_any W xs a cap p N ts ws tv wv w ho hN hI h
  | false => exact whole_no W xs a cap p ts ws tv wv w h
theorem climbS_is (xs : List OpD) (text : ByteArray) : climbS xs text = (climbB xs text).getD ⟨#[]⟩ := by
  unfold climbS
  cases climbB xs text <;> rfl
theorem climb_none {xs : List OpD} {text : ByteArray} (h : ¬ opsB xs = true ∨ 12 < text.size) : climbB xs text = none := by
  unfold climbB
  exact if_pos h

set_option maxHeartbeats 6400000 in
set_option maxRecDepth 100000 in
theorem implClimb_any (v : Value) (xs : List OpD) (text : ByteArray) (w : World) (hl : xs.length ≤ 1048576) (ht : text.size ≤ 1048576) (hin : ∀ x ∈ xs, x.sign.size ≤ maxLen) (h : Ops w v xs) :
    Calls Try.prog 8 #[v, .string text] w fun e w' => e = .returned (.tuple #[.string (climbS xs text), .bool (climbB xs text).isSome]) ∧ Below w.heap.size w w' := by
  rw [climbS_is]
  have HOk : Hid (∀ _ : Unit, _) := fun _ => implOpsOk_any v xs w hl hin h
  have HRo : Hid (Ops w v xs) := h
  clear h hin
  obtain ⟨a, cap, rfl⟩ := HRo.out.slice
  cases ho : opsB xs with
  | false =>
    have HV : Hid (climbB xs text = none) := climb_none (.inl (by rw [ho]; decide))
    rw [ho] at HOk
    clear ho
    go_enter Try.func8, Try.ntmps8
    go_wp2_with (go_at_call 9; refine (HOk.out ()).mono ?_; rintro e w1 ⟨rfl, hb1⟩)
    go_ret2
    rw [HV.out]
    exact ⟨rfl, hb1⟩
  | true =>
    have HO : Hid (opsB xs = true) := ho
    rw [ho] at HOk
    clear ho
    by_cases hbig : 12 < text.size
    · have HV : Hid (climbB xs text = none) := climb_none (.inr hbig)
      have i1 : (12 : Int) < (text.size : Int) := by omega
      clear hbig
      go_enter Try.func8, Try.ntmps8
      go_wp2_with (go_at_call 9; refine (HOk.out ()).mono ?_; rintro e w1 ⟨rfl, hb1⟩)
      go_ret2
      rw [HV.out]
      exact ⟨rfl, hb1⟩
    · have i1 : ¬ (12 : Int) < (text.size : Int) := by omega
      have htl : text.size ≤ 12 := by omega
      have HRc : Hid (run13 xs (rest13 text 0) ⟨[], [], false⟩ = climbB xs text) := run_climb HO.out text htl
      clear hbig
      go_enter Try.func8, Try.ntmps8
      go_wp2_with (go_at_call 9; refine (HOk.out ()).mono ?_; rintro e w1 ⟨rfl, hb1⟩)
      have HB1 : Hid (Below w.heap.size w w1) := hb1
      have HC0 : Hid (CmB w1 xs a cap w1.heap.size ⟨[], [], false⟩ (.slice none 0 0) (.slice none 0 0) (w1.alloc (.cells #[.slice a xs.length cap, .slice none 0 0, .slice none 0 0, .bool false] 45))) :=
        ⟨(Below.refl _ _).alloc (Nat.le_refl _) _, Nat.le_refl _, HRo.out.below hb1, heap_alloc_new w1 _, World.ownsRow_nil _ _ _ _, World.ownsRow_nil _ _ _ _⟩
      have HI0 : Hid (Inv13 xs 0 ⟨[], [], false⟩) := ⟨rfl, Nat.le_refl _, fun z hz => by cases hz⟩
      clear hb1
      generalize (w1.alloc (.cells #[.slice a xs.length cap, .slice none 0 0, .slice none 0 0, .bool false] 45)) = w2 at *
      go_loopw [20] (fun iv wr => ∃ (i : Nat) (c : CmD) (tv wv : Value), iv = .int .i64 i ∧ i ≤ text.size ∧ run13 xs (rest13 text i) c = climbB xs text ∧ Inv13 xs i c ∧ CmB w1 xs a cap w1.heap.size c tv wv wr) (fun iv _ => text.size - (intOf iv).toNat)
      case atStart => exact ⟨0, _, _, _, rfl, Nat.zero_le _, HRc.out, HI0.out, HC0.out⟩
      case round =>
        clear HRc HI0 HC0
        obtain ⟨i, c, tv, wv, rfl, hi, hrun, hI, hC⟩ := hrel
        obtain ⟨wa, rfl⟩ : ∃ V, V = wr := ⟨wr, rfl⟩
        have HRun : Hid (run13 xs (rest13 text i) c = climbB xs text) := hrun
        have HI : Hid (Inv13 xs i c) := hI
        have HC : Hid (CmB w1 xs a cap w1.heap.size c tv wv wa) := hC
        clear hrun hI hC
        by_cases hlt : i < text.size
        · have hb := byteAt_is hlt
          have HNx : Hid (run13 xs (byteAt text i :: rest13 text (i + 1)) c = climbB xs text) := by rw [Hid, ← rest_cons hlt]; exact HRun.out
          have HT : Hid (∀ _ : Unit, _) := fun _ => take_all w1 xs a cap w1.heap.size i c tv wv (byteAt text i) wa HO.out (by omega) HI.out HC.out
          rw [hb] at HT HNx
          have i4 : (i : Int) < (text.size : Int) := by omega
          clear hb HRun HI HC
          go_wp2_with fail
          refine (HT.out ()).mono ?_
          rintro e w3 hT
          rcases hT with ⟨h1, rfl, hb9⟩ | ⟨d, h1, rfl, hI3, tv3, wv3, hC3⟩
          · have HV : Hid (climbB xs text = none) := by rw [Hid, ← HNx.out, run13, h1]
            have HB3 : Hid (Below w.heap.size w w3) := HB1.out.trans (hb9.mono HB1.out.size)
            clear h1 HT HNx hb9
            go_wp2
            go_ret2
            rw [HV.out]
            exact ⟨rfl, HB3.out⟩
          · have HRd : Hid (run13 xs (rest13 text (i + 1)) d = climbB xs text) := by rw [Hid, ← HNx.out, run13, h1]
            have HI3 : Hid (Inv13 xs (i + 1) d) := hI3
            have HC3 : Hid (CmB w1 xs a cap w1.heap.size d tv3 wv3 w3) := hC3
            clear hI3 hC3 h1 HT HNx
            go_wp2
            go_roundw
            case rel => exact ⟨i + 1, d, tv3, wv3, by go_num, by omega, HRd.out, HI3.out, HC3.out⟩
            case measure => simp [intOf]; omega
        · obtain rfl : i = text.size := by omega
          have HV : Hid (climbB xs text = whole13 c) := by rw [Hid, ← HRun.out, rest_nil (Nat.le_refl _), run13]
          have HWh : Hid (∀ _ : Unit, _) := fun _ => whole_all w1 xs a cap w1.heap.size text.size c tv wv wa HO.out htl HI.out HC.out
          have i4 : ¬ (text.size : Int) < (text.size : Int) := by omega
          rw [← HV.out] at HWh
          clear HRun HI HC
          go_wp2_with fail
          refine (HWh.out ()).mono ?_
          rintro e w3 ⟨rfl, hb3⟩
          have HB3 : Hid (Below w.heap.size w w3) := HB1.out.trans (hb3.mono HB1.out.size)
          clear hb3
          go_wp2
          go_ret2
          exact ⟨rfl, HB3.out⟩

end Go.Proofs.Ytkojkicfibmjdaa
