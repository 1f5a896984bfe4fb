/- The law on two drawn sets joined and met, walked. -/
import Derived.Test.YtokgkjfgknjbbaaDoorSetDraw2
namespace Go.Proofs.YtokgkjfgknjbbaaDoor
open Go.RowKit

set_option maxHeartbeats 6400000 in
set_option maxRecDepth 100000 in
theorem fnSetsJoined_walk (a : Option Addr) (n cap : Nat) (w : World) (hcode : CodeRow w (.slice a n cap) n) (hT : TzTab w) :
    Calls Tryd.prog 6 #[.slice a n cap] w fun e w' => e = .returned (.bool true) ∧ Below w.heap.size w w' := by
  by_cases hbig : n ≤ 1048576
  · have hd : decide (1048576 < (n : Int)) = false := by simp; omega
    have HC : Hid (CodeRow w (.slice a n cap) n) := hcode
    have HT : Hid (TzTab w) := hT
    clear hcode hT
    go_enter Tryd.func6, Tryd.ntmps6
    go_wp2_with fail
    refine (big5_any a n cap _).mono ?_
    rintro e wq ⟨rfl, hw⟩
    rw [hw, hd]
    clear hw
    go_wp2_with fail
    refine (drawSets_any w _ n _ (by omega) HC.out (Below.refl _ _)).mono ?_
    rintro e w1 ⟨s, s', rfl, hs, hs', hb1⟩
    have B1 : Hid (Below w.heap.size w w1) := hb1
    clear hb1
    have hsz : s.size ≤ 1048576 := by have := hs.2; omega
    have hsz' : s'.size ≤ 1048576 := by have := hs'.2; omega
    have HOa : Hid (okL s.data.toList = true) := hs.1
    have HOb : Hid (okL s'.data.toList = true) := hs'.1
    have HSu : Hid (Sup (inL s.data.toList)) := inL_sup _
    have HSu' : Hid (Sup (inL s'.data.toList)) := inL_sup _
    have J1 : Hid (∀ W, TzTab W → _) := fun W h => implJoin_any s s' W h
    have J2 : Hid (∀ W, _) := fun W => specJoin_any s s' W hsz hsz'
    have J3 : Hid (∀ W, TzTab W → _) := fun W h => implJoin_any s' s W h
    rw [join_comm s'.data.toList s.data.toList] at J3
    have M1 : Hid (∀ W, TzTab W → _) := fun W h => implMeet_any s s' W h
    have M2 : Hid (∀ W, _) := fun W => specMeet_any s s' W hsz hsz'
    have I1 : Hid (∀ b W, b < 256 → _) := fun b W h => specInSet_any s b h W hsz
    have I2 : Hid (∀ b W, b < 256 → _) := fun b W h => specInSet_any s' b h W hsz'
    have hj : joinP s.data.toList s'.data.toList = toldP (fun x => inL s.data.toList x || inL s'.data.toList x) := by rw [joinP, HOa.out, HOb.out]; rfl
    have hm : meetP s.data.toList s'.data.toList = toldP (fun x => inL s.data.toList x && inL s'.data.toList x) := meet_any _ _
    rw [hj] at J1 J2 J3
    rw [hm] at M1 M2
    clear hj hm hs hs'
    generalize inL s.data.toList = f at *
    generalize inL s'.data.toList = g at *
    obtain ⟨tj, ok, hj, HJ⟩ : ∃ (tj : ByteArray) (ok : Bool), pairV (toldP fun x => f x || g x) = .tuple #[.string tj, .bool ok] ∧ Hid (ok = true → ∀ (b : Nat) (W : World), b < 256 → Calls Tryd.prog 21 #[.string tj, .int .u8 b] W fun e w' => e = .returned (.bool (f b || g b)) ∧ Below W.heap.size W w') := by
      cases ho : okL (textB fun x => f x || g x) with
      | false => exact ⟨str [], false, by rw [toldP, ho]; rfl, fun h => by cases h⟩
      | true =>
        refine ⟨str (textB fun x => f x || g x), true, by rw [toldP, ho]; rfl, fun _ b W hb => ?_⟩
        have := implInSet_any (str (textB fun x => f x || g x)) b hb W
        rw [str_list, told_back (HSu.out.or HSu'.out) ho] at this
        exact this
    obtain ⟨tm, right, hm, HM, HSome⟩ : ∃ (tm : ByteArray) (right : Bool), pairV (toldP fun x => f x && g x) = .tuple #[.string tm, .bool right] ∧ Hid (right = true → ∀ (b : Nat) (W : World), b < 256 → Calls Tryd.prog 21 #[.string tm, .int .u8 b] W fun e w' => e = .returned (.bool (f b && g b)) ∧ Below W.heap.size W w') ∧ Hid (right = true → ∃ x, 48 ≤ x ∧ x < 123 ∧ (f x && g x) = true) := by
      cases ho : okL (textB fun x => f x && g x) with
      | false => exact ⟨str [], false, by rw [toldP, ho]; rfl, (fun h => by cases h), (fun h => by cases h)⟩
      | true =>
        refine ⟨str (textB fun x => f x && g x), true, by rw [toldP, ho]; rfl, fun _ b W hb => ?_, fun _ => ?_⟩
        · have := implInSet_any (str (textB fun x => f x && g x)) b hb W
          rw [str_list, told_back (HSu.out.and HSu'.out) ho] at this
          exact this
        · obtain ⟨x, hx⟩ := told_some ho
          have hb := (okb_iff x).1 ((HSu.out.and HSu'.out) x hx)
          exact ⟨x, by omega, by omega, hx⟩
    rw [hj] at J1 J2 J3
    rw [hm] at M1 M2
    clear hj hm HSu HSu' HOa HOb
    go_wp2_with fail
    refine (J1.out _ (HT.out.below B1.out)).mono ?_
    rintro e w2 ⟨rfl, hb2⟩
    have B2 : Hid (Below w.heap.size w w2) := B1.out.trans (hb2.mono B1.out.size)
    clear hb2
    go_wp2_with fail
    refine (M1.out _ (HT.out.below B2.out)).mono ?_
    rintro e w3 ⟨rfl, hb3⟩
    have B3 : Hid (Below w.heap.size w w3) := B2.out.trans (hb3.mono B2.out.size)
    clear hb3
    go_wp2_with fail
    refine (J2.out _).mono ?_
    rintro e w4 ⟨rfl, hb4⟩
    have B4 : Hid (Below w.heap.size w w4) := B3.out.trans (hb4.mono B3.out.size)
    clear hb4
    go_wp2_with fail
    refine (M2.out _).mono ?_
    rintro e w5 ⟨rfl, hb5⟩
    have B5 : Hid (Below w.heap.size w w5) := B4.out.trans (hb5.mono B4.out.size)
    clear hb5
    clear J1 J2 M1 M2 B1 B2 B3 B4
    have hz1 : (!(ok == ok)) = false := by simp
    have hz2 : (!(right == right)) = false := by simp
    go_wp2
    go_loopw [13, 14] (fun sv iv wr => ∃ (sb : Bool) (k : Nat), sv = .bool sb ∧ iv = .int .i64 k ∧ 48 ≤ k ∧ k ≤ 123 ∧ (sb = false → ∀ x, 48 ≤ x → x < k → (f x && g x) = false) ∧ Below w.heap.size w wr) (fun _ iv _ => 123 - (intOf iv).toNat)
    case atStart => exact ⟨false, 48, rfl, rfl, by omega, by omega, fun _ x h1 h2 => by omega, B5.out⟩
    case round =>
      obtain ⟨sb, k, rfl, rfl, hk1, hk2, hsome, hbel⟩ := hrel
      have HB : Hid (Below w.heap.size w wr) := hbel
      have HNo : Hid (sb = false → ∀ x, 48 ≤ x → x < k → (f x && g x) = false) := hsome
      clear hbel hsome B5
      by_cases hlt : k < 123
      · have hlt' : (k : Int) < 123 := by omega
        have hk256 : k < 256 := by omega
        have HNx : Hid (∀ nb : Bool, (nb = (sb || (f k && g k))) → (nb = false → ∀ x, 48 ≤ x → x < k + 1 → (f x && g x) = false)) := fun nb hnb h x h1 h2 => by
          rw [h] at hnb
          have h3 := hnb.symm
          rw [Bool.or_eq_false_iff] at h3
          by_cases hx : x = k
          · rw [hx]; exact h3.2
          · exact HNo.out h3.1 x h1 (by omega)
        have K1 : Hid (∀ W, _) := fun W => I1.out k W hk256
        have K2 : Hid (∀ W, _) := fun W => I2.out k W hk256
        have K3 : Hid (ok = true → ∀ W, _) := fun h W => HJ.out h k W hk256
        have K4 : Hid (right = true → ∀ W, _) := fun h W => HM.out h k W hk256
        clear HJ HM HSome I1 I2 HNo J3
        generalize f k = x at *
        generalize g k = y at *
        cases x <;> cases ok <;> cases right <;> cases sb
        · clear K3 K4
          go_wp2_with fail
          refine (K1.out _).mono ?_
          rintro e w6 ⟨rfl, hb6⟩
          have B6 : Hid (Below w.heap.size w w6) := HB.out.trans (hb6.mono HB.out.size)
          clear hb6
          go_wp2_with fail
          refine (K2.out _).mono ?_
          rintro e w7 ⟨rfl, hb7⟩
          have B7 : Hid (Below w.heap.size w w7) := B6.out.trans (hb7.mono B6.out.size)
          clear hb7
          go_wp2
          go_roundw
          case rel => exact ⟨false, k + 1, rfl, by go_num, by omega, by omega, HNx.out false (by simp), B7.out⟩
          case measure => simp [intOf]; omega
        · clear K3 K4
          go_wp2_with fail
          refine (K1.out _).mono ?_
          rintro e w6 ⟨rfl, hb6⟩
          have B6 : Hid (Below w.heap.size w w6) := HB.out.trans (hb6.mono HB.out.size)
          clear hb6
          go_wp2_with fail
          refine (K2.out _).mono ?_
          rintro e w7 ⟨rfl, hb7⟩
          have B7 : Hid (Below w.heap.size w w7) := B6.out.trans (hb7.mono B6.out.size)
          clear hb7
          go_wp2
          go_roundw
          case rel => exact ⟨true, k + 1, rfl, by go_num, by omega, by omega, HNx.out true (by simp), B7.out⟩
          case measure => simp [intOf]; omega
        · have K4' : Hid (∀ W, _) := K4.out rfl
          simp only [Bool.false_and] at K4'
          clear K3 K4
          go_wp2_with fail
          refine (K1.out _).mono ?_
          rintro e w6 ⟨rfl, hb6⟩
          have B6 : Hid (Below w.heap.size w w6) := HB.out.trans (hb6.mono HB.out.size)
          clear hb6
          go_wp2_with fail
          refine (K2.out _).mono ?_
          rintro e w7 ⟨rfl, hb7⟩
          have B7 : Hid (Below w.heap.size w w7) := B6.out.trans (hb7.mono B6.out.size)
          clear hb7
          go_wp2_with fail
          refine (K4'.out _).mono ?_
          rintro e w8 ⟨rfl, hb8⟩
          have B8 : Hid (Below w.heap.size w w8) := B7.out.trans (hb8.mono B7.out.size)
          clear hb8
          go_wp2
          go_roundw
          case rel => exact ⟨false, k + 1, rfl, by go_num, by omega, by omega, HNx.out false (by simp), B8.out⟩
          case measure => simp [intOf]; omega
        · have K4' : Hid (∀ W, _) := K4.out rfl
          simp only [Bool.false_and] at K4'
          clear K3 K4
          go_wp2_with fail
          refine (K1.out _).mono ?_
          rintro e w6 ⟨rfl, hb6⟩
          have B6 : Hid (Below w.heap.size w w6) := HB.out.trans (hb6.mono HB.out.size)
          clear hb6
          go_wp2_with fail
          refine (K2.out _).mono ?_
          rintro e w7 ⟨rfl, hb7⟩
          have B7 : Hid (Below w.heap.size w w7) := B6.out.trans (hb7.mono B6.out.size)
          clear hb7
          go_wp2_with fail
          refine (K4'.out _).mono ?_
          rintro e w8 ⟨rfl, hb8⟩
          have B8 : Hid (Below w.heap.size w w8) := B7.out.trans (hb8.mono B7.out.size)
          clear hb8
          go_wp2
          go_roundw
          case rel => exact ⟨true, k + 1, rfl, by go_num, by omega, by omega, HNx.out true (by simp), B8.out⟩
          case measure => simp [intOf]; omega
        · have K3' : Hid (∀ W, _) := K3.out rfl
          simp only [Bool.false_or] at K3'
          clear K3 K4
          go_wp2_with fail
          refine (K1.out _).mono ?_
          rintro e w6 ⟨rfl, hb6⟩
          have B6 : Hid (Below w.heap.size w w6) := HB.out.trans (hb6.mono HB.out.size)
          clear hb6
          go_wp2_with fail
          refine (K2.out _).mono ?_
          rintro e w7 ⟨rfl, hb7⟩
          have B7 : Hid (Below w.heap.size w w7) := B6.out.trans (hb7.mono B6.out.size)
          clear hb7
          go_wp2_with fail
          refine (K3'.out _).mono ?_
          rintro e w8 ⟨rfl, hb8⟩
          have B8 : Hid (Below w.heap.size w w8) := B7.out.trans (hb8.mono B7.out.size)
          clear hb8
          go_wp2
          go_roundw
          case rel => exact ⟨false, k + 1, rfl, by go_num, by omega, by omega, HNx.out false (by simp), B8.out⟩
          case measure => simp [intOf]; omega
        · have K3' : Hid (∀ W, _) := K3.out rfl
          simp only [Bool.false_or] at K3'
          clear K3 K4
          go_wp2_with fail
          refine (K1.out _).mono ?_
          rintro e w6 ⟨rfl, hb6⟩
          have B6 : Hid (Below w.heap.size w w6) := HB.out.trans (hb6.mono HB.out.size)
          clear hb6
          go_wp2_with fail
          refine (K2.out _).mono ?_
          rintro e w7 ⟨rfl, hb7⟩
          have B7 : Hid (Below w.heap.size w w7) := B6.out.trans (hb7.mono B6.out.size)
          clear hb7
          go_wp2_with fail
          refine (K3'.out _).mono ?_
          rintro e w8 ⟨rfl, hb8⟩
          have B8 : Hid (Below w.heap.size w w8) := B7.out.trans (hb8.mono B7.out.size)
          clear hb8
          go_wp2
          go_roundw
          case rel => exact ⟨true, k + 1, rfl, by go_num, by omega, by omega, HNx.out true (by simp), B8.out⟩
          case measure => simp [intOf]; omega
        · have K3' : Hid (∀ W, _) := K3.out rfl
          simp only [Bool.false_or] at K3'
          have K4' : Hid (∀ W, _) := K4.out rfl
          simp only [Bool.false_and] at K4'
          clear K3 K4
          go_wp2_with fail
          refine (K1.out _).mono ?_
          rintro e w6 ⟨rfl, hb6⟩
          have B6 : Hid (Below w.heap.size w w6) := HB.out.trans (hb6.mono HB.out.size)
          clear hb6
          go_wp2_with fail
          refine (K2.out _).mono ?_
          rintro e w7 ⟨rfl, hb7⟩
          have B7 : Hid (Below w.heap.size w w7) := B6.out.trans (hb7.mono B6.out.size)
          clear hb7
          go_wp2_with fail
          refine (K3'.out _).mono ?_
          rintro e w8 ⟨rfl, hb8⟩
          have B8 : Hid (Below w.heap.size w w8) := B7.out.trans (hb8.mono B7.out.size)
          clear hb8
          go_wp2_with fail
          refine (K4'.out _).mono ?_
          rintro e w9 ⟨rfl, hb9⟩
          have B9 : Hid (Below w.heap.size w w9) := B8.out.trans (hb9.mono B8.out.size)
          clear hb9
          go_wp2
          go_roundw
          case rel => exact ⟨false, k + 1, rfl, by go_num, by omega, by omega, HNx.out false (by simp), B9.out⟩
          case measure => simp [intOf]; omega
        · have K3' : Hid (∀ W, _) := K3.out rfl
          simp only [Bool.false_or] at K3'
          have K4' : Hid (∀ W, _) := K4.out rfl
          simp only [Bool.false_and] at K4'
          clear K3 K4
          go_wp2_with fail
          refine (K1.out _).mono ?_
          rintro e w6 ⟨rfl, hb6⟩
          have B6 : Hid (Below w.heap.size w w6) := HB.out.trans (hb6.mono HB.out.size)
          clear hb6
          go_wp2_with fail
          refine (K2.out _).mono ?_
          rintro e w7 ⟨rfl, hb7⟩
          have B7 : Hid (Below w.heap.size w w7) := B6.out.trans (hb7.mono B6.out.size)
          clear hb7
          go_wp2_with fail
          refine (K3'.out _).mono ?_
          rintro e w8 ⟨rfl, hb8⟩
          have B8 : Hid (Below w.heap.size w w8) := B7.out.trans (hb8.mono B7.out.size)
          clear hb8
          go_wp2_with fail
          refine (K4'.out _).mono ?_
          rintro e w9 ⟨rfl, hb9⟩
          have B9 : Hid (Below w.heap.size w w9) := B8.out.trans (hb9.mono B8.out.size)
          clear hb9
          go_wp2
          go_roundw
          case rel => exact ⟨true, k + 1, rfl, by go_num, by omega, by omega, HNx.out true (by simp), B9.out⟩
          case measure => simp [intOf]; omega
        · clear K3 K4
          go_wp2_with fail
          refine (K1.out _).mono ?_
          rintro e w6 ⟨rfl, hb6⟩
          have B6 : Hid (Below w.heap.size w w6) := HB.out.trans (hb6.mono HB.out.size)
          clear hb6
          go_wp2_with fail
          refine (K2.out _).mono ?_
          rintro e w7 ⟨rfl, hb7⟩
          have B7 : Hid (Below w.heap.size w w7) := B6.out.trans (hb7.mono B6.out.size)
          clear hb7
          go_wp2
          go_roundw
          case rel => exact ⟨y, k + 1, rfl, by go_num, by omega, by omega, HNx.out y (by simp), B7.out⟩
          case measure => simp [intOf]; omega
        · clear K3 K4
          go_wp2_with fail
          refine (K1.out _).mono ?_
          rintro e w6 ⟨rfl, hb6⟩
          have B6 : Hid (Below w.heap.size w w6) := HB.out.trans (hb6.mono HB.out.size)
          clear hb6
          go_wp2_with fail
          refine (K2.out _).mono ?_
          rintro e w7 ⟨rfl, hb7⟩
          have B7 : Hid (Below w.heap.size w w7) := B6.out.trans (hb7.mono B6.out.size)
          clear hb7
          go_wp2
          go_roundw
          case rel => exact ⟨true, k + 1, rfl, by go_num, by omega, by omega, HNx.out true (by simp), B7.out⟩
          case measure => simp [intOf]; omega
        · have K4' : Hid (∀ W, _) := K4.out rfl
          simp only [Bool.true_and] at K4'
          clear K3 K4
          go_wp2_with fail
          refine (K1.out _).mono ?_
          rintro e w6 ⟨rfl, hb6⟩
          have B6 : Hid (Below w.heap.size w w6) := HB.out.trans (hb6.mono HB.out.size)
          clear hb6
          go_wp2_with fail
          refine (K2.out _).mono ?_
          rintro e w7 ⟨rfl, hb7⟩
          have B7 : Hid (Below w.heap.size w w7) := B6.out.trans (hb7.mono B6.out.size)
          clear hb7
          go_wp2_with fail
          refine (K4'.out _).mono ?_
          rintro e w8 ⟨rfl, hb8⟩
          have B8 : Hid (Below w.heap.size w w8) := B7.out.trans (hb8.mono B7.out.size)
          clear hb8
          go_wp2
          go_roundw
          case rel => exact ⟨y, k + 1, rfl, by go_num, by omega, by omega, HNx.out y (by simp), B8.out⟩
          case measure => simp [intOf]; omega
        · have K4' : Hid (∀ W, _) := K4.out rfl
          simp only [Bool.true_and] at K4'
          clear K3 K4
          go_wp2_with fail
          refine (K1.out _).mono ?_
          rintro e w6 ⟨rfl, hb6⟩
          have B6 : Hid (Below w.heap.size w w6) := HB.out.trans (hb6.mono HB.out.size)
          clear hb6
          go_wp2_with fail
          refine (K2.out _).mono ?_
          rintro e w7 ⟨rfl, hb7⟩
          have B7 : Hid (Below w.heap.size w w7) := B6.out.trans (hb7.mono B6.out.size)
          clear hb7
          go_wp2_with fail
          refine (K4'.out _).mono ?_
          rintro e w8 ⟨rfl, hb8⟩
          have B8 : Hid (Below w.heap.size w w8) := B7.out.trans (hb8.mono B7.out.size)
          clear hb8
          go_wp2
          go_roundw
          case rel => exact ⟨true, k + 1, rfl, by go_num, by omega, by omega, HNx.out true (by simp), B8.out⟩
          case measure => simp [intOf]; omega
        · have K3' : Hid (∀ W, _) := K3.out rfl
          simp only [Bool.true_or] at K3'
          clear K3 K4
          go_wp2_with fail
          refine (K1.out _).mono ?_
          rintro e w6 ⟨rfl, hb6⟩
          have B6 : Hid (Below w.heap.size w w6) := HB.out.trans (hb6.mono HB.out.size)
          clear hb6
          go_wp2_with fail
          refine (K2.out _).mono ?_
          rintro e w7 ⟨rfl, hb7⟩
          have B7 : Hid (Below w.heap.size w w7) := B6.out.trans (hb7.mono B6.out.size)
          clear hb7
          go_wp2_with fail
          refine (K3'.out _).mono ?_
          rintro e w8 ⟨rfl, hb8⟩
          have B8 : Hid (Below w.heap.size w w8) := B7.out.trans (hb8.mono B7.out.size)
          clear hb8
          go_wp2
          go_roundw
          case rel => exact ⟨y, k + 1, rfl, by go_num, by omega, by omega, HNx.out y (by simp), B8.out⟩
          case measure => simp [intOf]; omega
        · have K3' : Hid (∀ W, _) := K3.out rfl
          simp only [Bool.true_or] at K3'
          clear K3 K4
          go_wp2_with fail
          refine (K1.out _).mono ?_
          rintro e w6 ⟨rfl, hb6⟩
          have B6 : Hid (Below w.heap.size w w6) := HB.out.trans (hb6.mono HB.out.size)
          clear hb6
          go_wp2_with fail
          refine (K2.out _).mono ?_
          rintro e w7 ⟨rfl, hb7⟩
          have B7 : Hid (Below w.heap.size w w7) := B6.out.trans (hb7.mono B6.out.size)
          clear hb7
          go_wp2_with fail
          refine (K3'.out _).mono ?_
          rintro e w8 ⟨rfl, hb8⟩
          have B8 : Hid (Below w.heap.size w w8) := B7.out.trans (hb8.mono B7.out.size)
          clear hb8
          go_wp2
          go_roundw
          case rel => exact ⟨true, k + 1, rfl, by go_num, by omega, by omega, HNx.out true (by simp), B8.out⟩
          case measure => simp [intOf]; omega
        · have K3' : Hid (∀ W, _) := K3.out rfl
          simp only [Bool.true_or] at K3'
          have K4' : Hid (∀ W, _) := K4.out rfl
          simp only [Bool.true_and] at K4'
          clear K3 K4
          go_wp2_with fail
          refine (K1.out _).mono ?_
          rintro e w6 ⟨rfl, hb6⟩
          have B6 : Hid (Below w.heap.size w w6) := HB.out.trans (hb6.mono HB.out.size)
          clear hb6
          go_wp2_with fail
          refine (K2.out _).mono ?_
          rintro e w7 ⟨rfl, hb7⟩
          have B7 : Hid (Below w.heap.size w w7) := B6.out.trans (hb7.mono B6.out.size)
          clear hb7
          go_wp2_with fail
          refine (K3'.out _).mono ?_
          rintro e w8 ⟨rfl, hb8⟩
          have B8 : Hid (Below w.heap.size w w8) := B7.out.trans (hb8.mono B7.out.size)
          clear hb8
          go_wp2_with fail
          refine (K4'.out _).mono ?_
          rintro e w9 ⟨rfl, hb9⟩
          have B9 : Hid (Below w.heap.size w w9) := B8.out.trans (hb9.mono B8.out.size)
          clear hb9
          go_wp2
          go_roundw
          case rel => exact ⟨y, k + 1, rfl, by go_num, by omega, by omega, HNx.out y (by simp), B9.out⟩
          case measure => simp [intOf]; omega
        · have K3' : Hid (∀ W, _) := K3.out rfl
          simp only [Bool.true_or] at K3'
          have K4' : Hid (∀ W, _) := K4.out rfl
          simp only [Bool.true_and] at K4'
          clear K3 K4
          go_wp2_with fail
          refine (K1.out _).mono ?_
          rintro e w6 ⟨rfl, hb6⟩
          have B6 : Hid (Below w.heap.size w w6) := HB.out.trans (hb6.mono HB.out.size)
          clear hb6
          go_wp2_with fail
          refine (K2.out _).mono ?_
          rintro e w7 ⟨rfl, hb7⟩
          have B7 : Hid (Below w.heap.size w w7) := B6.out.trans (hb7.mono B6.out.size)
          clear hb7
          go_wp2_with fail
          refine (K3'.out _).mono ?_
          rintro e w8 ⟨rfl, hb8⟩
          have B8 : Hid (Below w.heap.size w w8) := B7.out.trans (hb8.mono B7.out.size)
          clear hb8
          go_wp2_with fail
          refine (K4'.out _).mono ?_
          rintro e w9 ⟨rfl, hb9⟩
          have B9 : Hid (Below w.heap.size w w9) := B8.out.trans (hb9.mono B8.out.size)
          clear hb9
          go_wp2
          go_roundw
          case rel => exact ⟨true, k + 1, rfl, by go_num, by omega, by omega, HNx.out true (by simp), B9.out⟩
          case measure => simp [intOf]; omega
      · obtain rfl : k = 123 := by omega
        have HFin : Hid (right = true → sb = true) := fun h => by
          obtain ⟨x, h1, h2, h3⟩ := HSome.out h
          cases sb with
          | true => rfl
          | false => rw [HNo.out rfl x h1 h2] at h3; cases h3
        clear HJ HM HSome I1 I2 HNo
        cases sb with
        | true =>
          go_wp2_with fail
          refine (J3.out _ (HT.out.below HB.out)).mono ?_
          rintro e w6 ⟨rfl, hb6⟩
          have B6 : Hid (Below w.heap.size w w6) := HB.out.trans (hb6.mono HB.out.size)
          clear hb6
          go_wp2
          go_ret
          exact ⟨rfl, B6.out⟩
        | false =>
          cases right with
          | true => exact absurd (HFin.out rfl) (by decide)
          | false =>
            go_wp2_with fail
            refine (J3.out _ (HT.out.below HB.out)).mono ?_
            rintro e w6 ⟨rfl, hb6⟩
            have B6 : Hid (Below w.heap.size w w6) := HB.out.trans (hb6.mono HB.out.size)
            clear hb6
            go_wp2
            go_ret
            exact ⟨rfl, B6.out⟩
  · have hd : decide (1048576 < (n : Int)) = true := by simp; omega
    go_enter Tryd.func6, Tryd.ntmps6
    go_wp2_with (go_at_call 8; refine (big5_any a n cap _).mono ?_; rintro e wq ⟨rfl, hw⟩; rw [hw, hd]; clear hw)
    go_ret
    exact ⟨rfl, Below.refl _ _⟩

end Go.Proofs.YtokgkjfgknjbbaaDoor
