/- The law on sets of drawn bytes, walked. -/
import Derived.Test.YtokgkjfgknjbbaaDoorSetDraw2
namespace Go.Proofs.YtokgkjfgknjbbaaDoor
open Go.RowKit

set_option maxHeartbeats 3200000 in
set_option maxRecDepth 100000 in
theorem fnSetsOf_walk (a : Option Addr) (n cap : Nat) (w : World) (hcode : CodeRow w (.slice a n cap) n) (hT : TzTab w) :
    Calls Tryd.prog 5 #[.slice a n cap] w fun e w' => e = .returned (.bool true) ∧ Below w.heap.size w w' := by
  by_cases hbig : n ≤ 1048576
  · have hd : decide (1048576 < (n : Int)) = false := by simp; omega
    have HC : Hid (CodeRow w (.slice a n cap) n) := hcode
    have HT : Hid (TzTab w) := hT
    clear hcode hT
    have HTail : Hid (∀ (u v : ByteArray) (b : Nat), u.size ≤ 13 → v.size ≤ 13 → b < 256 →
        (∀ W, Calls Tryd.prog 24 #[.string u] W fun e w' => e = .returned (.bool (okL u.data.toList)) ∧ Below W.heap.size W w') ∧
        (∀ W, Calls Tryd.prog 30 #[.string u] W fun e w' => e = .returned (.bool (okL u.data.toList)) ∧ Below W.heap.size W w') ∧
        (∀ W, Calls Tryd.prog 21 #[.string v, .int .u8 b] W fun e w' => e = .returned (.bool (inL v.data.toList b)) ∧ Below W.heap.size W w') ∧
        (∀ W, Calls Tryd.prog 31 #[.string v, .int .u8 b] W fun e w' => e = .returned (.bool (inL v.data.toList b)) ∧ Below W.heap.size W w') ∧
        (∀ W, TzTab W → Calls Tryd.prog 20 #[.string u] W fun e w' => e = .returned (.string (str (bytesB (inL u.data.toList)))) ∧ Below W.heap.size W w') ∧
        (∀ W, Calls Tryd.prog 25 #[.string u] W fun e w' => e = .returned (.string (str (bytesB (inL u.data.toList)))) ∧ Below W.heap.size W w')) :=
      fun u v b hu hv hb => ⟨fun W => implSetOk_any u W, fun W => specSetOk_any u W (by omega), fun W => implInSet_any v b hb W, fun W => specInSet_any v b hb W (by omega), fun W h => implSetBytes_any u W h, fun W => specSetBytes_any u W (by omega)⟩
    have HAbc : Hid (∀ W, TzTab W → Calls Tryd.prog 23 #[.string ⟨#[99, 98, 97, 98, 97]⟩] W fun e w' => e = .returned (.tuple #[.string ⟨#[97, 45, 99]⟩, .bool true]) ∧ Below W.heap.size W w') := fun W h => by
      have := implSetOf_any ⟨#[99, 98, 97, 98, 97]⟩ W (by decide) h
      rw [show (⟨#[99, 98, 97, 98, 97]⟩ : ByteArray).data.toList = [99, 98, 97, 98, 97] from rfl, cbaba] at this
      exact this
    go_enter Tryd.func5, Tryd.ntmps5
    go_wp2_with fail
    refine (big5_any a n cap _).mono ?_
    rintro e wq ⟨rfl, hw⟩
    rw [hw, hd]
    clear hw
    go_wp2_with fail
    refine (drawSetOf_any w _ n _ (by omega) HC.out (Below.refl _ _)).mono ?_
    rintro e w1 ⟨t, rfl, ht, hb1⟩
    have B1 : Hid (Below w.heap.size w w1) := hb1
    clear hb1
    have HIm : Hid (∀ W, TzTab W → _) := fun W h => implSetOf_any t W (by omega) h
    have HSp : Hid (∀ W, _) := fun W => specSetOf_any t W (by omega)
    -- where there is a set it has each of them
    obtain ⟨x, ok, hp, hin⟩ : ∃ (x : ByteArray) (ok : Bool), pairV (setOfP t.data.toList) = .tuple #[.string x, .bool ok] ∧ (ok = true → ∀ k (h : k < t.size), inL x.data.toList t[k].toNat = true) := by
      refine ⟨_, _, rfl, fun hok k hk => ?_⟩
      rw [setOfP] at hok ⊢
      split at hok
      · rename_i hall
        rw [if_pos hall]
        rw [toldP] at hok ⊢
        split at hok
        · rename_i ho
          rw [if_pos ho, str_list, told_back (memB_sup hall) ho, memB, List.any_eq_true]
          exact ⟨t.data.toList[k]'(by simpa using hk), List.getElem_mem _, by rw [beq_iff_eq]; rfl⟩
        · cases hok
      · cases hok
    rw [hp] at HIm HSp
    have HX : Hid (ok = true → ∀ k (h : k < t.size), inL x.data.toList t[k].toNat = true) := hin
    have HIn : Hid (∀ b W, b < 256 → _) := fun b W h => implInSet_any x b h W
    clear hp hin
    go_wp2_with fail
    refine (HIm.out _ (HT.out.below B1.out)).mono ?_
    rintro e w2 ⟨rfl, hb2⟩
    have B2 : Hid (Below w.heap.size w w2) := B1.out.trans (hb2.mono B1.out.size)
    clear hb2
    go_wp2_with fail
    refine (HSp.out _).mono ?_
    rintro e w3 ⟨rfl, hb3⟩
    have B3 : Hid (Below w.heap.size w w3) := B2.out.trans (hb3.mono B2.out.size)
    clear hb3
    go_wp2_with fail
    refine (drawSetOk_any w _ n _ (by omega) HC.out B3.out).mono ?_
    rintro e w4 ⟨u, rfl, hu, hb4⟩
    have B4 : Hid (Below w.heap.size w w4) := B3.out.trans (hb4.mono B3.out.size)
    clear hb4
    go_wp2_with fail
    refine (drawInSet_any w _ n _ (by omega) HC.out B4.out).mono ?_
    rintro e w5 ⟨v, b, rfl, hv, hb, hb5⟩
    have B5 : Hid (Below w.heap.size w w5) := B4.out.trans (hb5.mono B4.out.size)
    clear hb5 HIm HSp B1 B2 B3 B4
    obtain ⟨c1, c2, c3, c4, c5, c6⟩ := HTail.out u v b hu hv hb
    have C1 : Hid (∀ W, _) := c1
    have C2 : Hid (∀ W, _) := c2
    have C3 : Hid (∀ W, _) := c3
    have C4 : Hid (∀ W, _) := c4
    have C5 : Hid (∀ W, TzTab W → _) := c5
    have C6 : Hid (∀ W, _) := c6
    clear c1 c2 c3 c4 c5 c6 HTail
    generalize okL u.data.toList = ub at *
    generalize inL v.data.toList b = vb at *
    generalize str (bytesB (inL u.data.toList)) = us at *
    go_wp2
    go_loopw [11] (fun iv wr => ∃ k : Nat, iv = .int .i64 k ∧ k ≤ t.size ∧ Below w.heap.size w wr) (fun iv _ => t.size - (intOf iv).toNat)
    case atStart => exact ⟨0, rfl, by omega, B5.out⟩
    case round =>
      obtain ⟨k, rfl, hk, hbel⟩ := hrel
      have HB : Hid (Below w.heap.size w wr) := hbel
      clear hbel B5
      by_cases hgo : k < t.size ∧ ok = true
      · obtain ⟨hlt, rfl⟩ := hgo
        have hmem := HX.out rfl k hlt
        have hu := t[k].toNat_lt
        go_wp2_with (go_at_call 21; refine (HIn.out _ _ (by omega)).mono ?_; rw [hmem]; rintro e w6 ⟨rfl, hb6⟩)
        have B6 : Hid (Below w.heap.size w w6) := HB.out.trans (hb6.mono HB.out.size)
        clear hb6
        go_roundw
        case rel => exact ⟨k + 1, by go_num, by omega, B6.out⟩
        case measure => simp [intOf]; omega
      · by_cases hlt : k < t.size
        · obtain rfl : ok = false := by
            cases ok with
            | false => rfl
            | true => exact absurd ⟨hlt, rfl⟩ hgo
          clear hgo
          have hlt' : (k : Int) < (t.size : Int) := by omega
          go_wp2_with fail
          refine (HAbc.out _ (HT.out.below HB.out)).mono ?_
          rintro e w7 ⟨rfl, hb7⟩
          have B7 : Hid (Below w.heap.size w w7) := HB.out.trans (hb7.mono HB.out.size)
          clear hb7
          go_wp2_with fail
          refine (C1.out _).mono ?_
          rintro e w8 ⟨rfl, hb8⟩
          have B8 : Hid (Below w.heap.size w w8) := B7.out.trans (hb8.mono B7.out.size)
          clear hb8
          go_wp2_with fail
          refine (C2.out _).mono ?_
          rintro e w9 ⟨rfl, hb9⟩
          have B9 : Hid (Below w.heap.size w w9) := B8.out.trans (hb9.mono B8.out.size)
          clear hb9
          go_wp2_with fail
          refine (C3.out _).mono ?_
          rintro e w10 ⟨rfl, hb10⟩
          have B10 : Hid (Below w.heap.size w w10) := B9.out.trans (hb10.mono B9.out.size)
          clear hb10
          go_wp2_with fail
          refine (C4.out _).mono ?_
          rintro e w11 ⟨rfl, hb11⟩
          have B11 : Hid (Below w.heap.size w w11) := B10.out.trans (hb11.mono B10.out.size)
          clear hb11
          go_wp2_with fail
          refine (C5.out _ (HT.out.below B11.out)).mono ?_
          rintro e w12 ⟨rfl, hb12⟩
          have B12 : Hid (Below w.heap.size w w12) := B11.out.trans (hb12.mono B11.out.size)
          clear hb12
          go_wp2_with fail
          refine (C6.out _).mono ?_
          rintro e w13 ⟨rfl, hb13⟩
          have B13 : Hid (Below w.heap.size w w13) := B12.out.trans (hb13.mono B12.out.size)
          clear hb13
          go_wp2
          go_ret
          exact ⟨rfl, B13.out⟩
        · clear hgo
          have hlt' : ¬ (k : Int) < (t.size : Int) := by omega
          go_wp2_with fail
          refine (HAbc.out _ (HT.out.below HB.out)).mono ?_
          rintro e w7 ⟨rfl, hb7⟩
          have B7 : Hid (Below w.heap.size w w7) := HB.out.trans (hb7.mono HB.out.size)
          clear hb7
          go_wp2_with fail
          refine (C1.out _).mono ?_
          rintro e w8 ⟨rfl, hb8⟩
          have B8 : Hid (Below w.heap.size w w8) := B7.out.trans (hb8.mono B7.out.size)
          clear hb8
          go_wp2_with fail
          refine (C2.out _).mono ?_
          rintro e w9 ⟨rfl, hb9⟩
          have B9 : Hid (Below w.heap.size w w9) := B8.out.trans (hb9.mono B8.out.size)
          clear hb9
          go_wp2_with fail
          refine (C3.out _).mono ?_
          rintro e w10 ⟨rfl, hb10⟩
          have B10 : Hid (Below w.heap.size w w10) := B9.out.trans (hb10.mono B9.out.size)
          clear hb10
          go_wp2_with fail
          refine (C4.out _).mono ?_
          rintro e w11 ⟨rfl, hb11⟩
          have B11 : Hid (Below w.heap.size w w11) := B10.out.trans (hb11.mono B10.out.size)
          clear hb11
          go_wp2_with fail
          refine (C5.out _ (HT.out.below B11.out)).mono ?_
          rintro e w12 ⟨rfl, hb12⟩
          have B12 : Hid (Below w.heap.size w w12) := B11.out.trans (hb12.mono B11.out.size)
          clear hb12
          go_wp2_with fail
          refine (C6.out _).mono ?_
          rintro e w13 ⟨rfl, hb13⟩
          have B13 : Hid (Below w.heap.size w w13) := B12.out.trans (hb13.mono B12.out.size)
          clear hb13
          go_wp2
          go_ret
          exact ⟨rfl, B13.out⟩
  · have hd : decide (1048576 < (n : Int)) = true := by simp; omega
    go_enter Tryd.func5, Tryd.ntmps5
    go_wp2_with (go_at_call 8; refine (big5_any a n cap _).mono ?_; rintro e wq ⟨rfl, hw⟩; rw [hw, hd]; clear hw)
    go_ret
    exact ⟨rfl, Below.refl _ _⟩

end Go.Proofs.YtokgkjfgknjbbaaDoor
