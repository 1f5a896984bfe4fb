/- The law on a drawn set joined and met with itself and with all, walked. -/
import Derived.Test.YtokgkjfgknjbbaaDoorSetDraw2
namespace Go.Proofs.YtokgkjfgknjbbaaDoor
open Go.RowKit

set_option maxHeartbeats 6400000 in
set_option maxRecDepth 100000 in
theorem fnSetsMet_walk (a : Option Addr) (n cap : Nat) (w : World) (hcode : CodeRow w (.slice a n cap) n) (hT : TzTab w) :
    Calls Tryd.prog 7 #[.slice a n cap] w fun e w' => e = .returned (.bool true) ∧ Below w.heap.size w w' := by
  by_cases hbig : n ≤ 1048576
  · have hd : decide (1048576 < (n : Int)) = false := by simp; omega
    have HC : Hid (CodeRow w (.slice a n cap) n) := hcode
    have HT : Hid (TzTab w) := hT
    clear hcode hT
    go_enter Tryd.func7, Tryd.ntmps7
    go_wp2_with fail
    refine (big5_any a n cap _).mono ?_
    rintro e wq ⟨rfl, hw⟩
    rw [hw, hd]
    clear hw
    go_wp2_with fail
    refine (drawSets_any w _ n _ (by omega) HC.out (Below.refl _ _)).mono ?_
    rintro e w1 ⟨s, s', rfl, hs, hs', hb1⟩
    have B1 : Hid (Below w.heap.size w w1) := hb1
    clear hb1
    have hsz : s.size ≤ 1048576 := by have := hs.2; omega
    have hsz' : s'.size ≤ 1048576 := by have := hs'.2; omega
    have HOk : Hid (okL s.data.toList = true) := hs.1
    have HSup : Hid (Sup (inL s.data.toList)) := inL_sup _
    have J1 : Hid (∀ W, TzTab W → _) := fun W h => implJoin_any s s W h
    rw [join_self _ HOk.out] at J1
    have M1 : Hid (∀ W, TzTab W → _) := fun W h => implMeet_any s ⟨#[97, 45, 122, 48, 45, 57]⟩ W h
    rw [show ((⟨#[97, 45, 122, 48, 45, 57]⟩ : ByteArray).data.toList) = allL from rfl, meet_all HOk.out] at M1
    have J2 : Hid (∀ W, TzTab W → Calls Tryd.prog 32 #[.string s, .string ⟨#[97, 45, 122, 48, 45, 57]⟩] W fun e w' => e = .returned (.tuple #[.string (str (textB okb)), .bool true]) ∧ Below W.heap.size W w') := fun W h => by
      have := implJoin_any s ⟨#[97, 45, 122, 48, 45, 57]⟩ W h
      rw [show ((⟨#[97, 45, 122, 48, 45, 57]⟩ : ByteArray).data.toList) = allL from rfl, join_all HOk.out] at this
      exact this
    have BA : Hid (∀ W, TzTab W → Calls Tryd.prog 20 #[.string (str (textB okb))] W fun e w' => e = .returned (.string (str (bytesB okb))) ∧ Below W.heap.size W w') := fun W h => by
      have := implSetBytes_any (str (textB okb)) W h
      rw [str_list, told_back (fun _ h => h) all_text] at this
      exact this
    have BAs : Hid (∀ W, Calls Tryd.prog 25 #[.string ⟨#[97, 45, 122, 48, 45, 57]⟩] W fun e w' => e = .returned (.string (str (bytesB okb))) ∧ Below W.heap.size W w') := fun W => by
      have := specSetBytes_any ⟨#[97, 45, 122, 48, 45, 57]⟩ W (by decide)
      rw [show ((⟨#[97, 45, 122, 48, 45, 57]⟩ : ByteArray).data.toList) = allL from rfl, all_in] at this
      exact this
    have BS : Hid (∀ W, _) := fun W => specSetBytes_any s W hsz
    have O2 : Hid (∀ W, _) := fun W => implSetOk_any s' W
    rw [hs'.1] at O2
    clear hs hs'
    generalize inL s.data.toList = f at *
    have HTb : Hid (okL (textB f) = true → ∀ W, TzTab W → Calls Tryd.prog 20 #[.string (str (textB f))] W fun e w' => e = .returned (.string (str (bytesB f))) ∧ Below W.heap.size W w') := fun h W hT => by
      have := implSetBytes_any (str (textB f)) W hT
      rw [str_list, told_back HSup.out h] at this
      exact this
    generalize str (bytesB okb) = tall at *
    generalize str (textB okb) = xall at *
    generalize str (bytesB f) = tf at *
    have HDraw : Hid (∀ (x y : ByteArray), x.size ≤ 13 → y.size ≤ 13 → ∃ (p : ByteArray) (pb : Bool) (q : ByteArray) (qb : Bool),
        (∀ W, TzTab W → Calls Tryd.prog 32 #[.string x, .string y] W fun e w' => e = .returned (.tuple #[.string p, .bool pb]) ∧ Below W.heap.size W w') ∧
        (∀ W, Calls Tryd.prog 34 #[.string x, .string y] W fun e w' => e = .returned (.tuple #[.string p, .bool pb]) ∧ Below W.heap.size W w') ∧
        (∀ W, TzTab W → Calls Tryd.prog 33 #[.string x, .string y] W fun e w' => e = .returned (.tuple #[.string q, .bool qb]) ∧ Below W.heap.size W w') ∧
        (∀ W, Calls Tryd.prog 35 #[.string x, .string y] W fun e w' => e = .returned (.tuple #[.string q, .bool qb]) ∧ Below W.heap.size W w')) := fun x y hx hy =>
      ⟨_, _, _, _, fun W h => implJoin_any x y W h, fun W => specJoin_any x y W (by omega) (by omega), fun W h => implMeet_any x y W h, fun W => specMeet_any x y W (by omega) (by omega)⟩
    cases ho : okL (textB f) with
    | true =>
      have hp : pairV (toldP f) = .tuple #[.string (str (textB f)), .bool true] := by rw [toldP, ho]; rfl
      have T1 : Hid (∀ W, TzTab W → _) := HTb.out ho
      rw [hp] at J1 M1
      clear hp ho HTb
      generalize str (textB f) = tx at *
      go_wp2_with fail
      refine (J1.out _ (HT.out.below B1.out)).mono ?_
      rintro e w2 ⟨rfl, hb2⟩
      have B2 : Hid (Below w.heap.size w w2) := B1.out.trans (hb2.mono B1.out.size)
      clear hb2
      go_wp2_with fail
      refine (M1.out _ (HT.out.below B2.out)).mono ?_
      rintro e w3 ⟨rfl, hb3⟩
      have B3 : Hid (Below w.heap.size w w3) := B2.out.trans (hb3.mono B2.out.size)
      clear hb3
      go_wp2_with fail
      refine (J2.out _ (HT.out.below B3.out)).mono ?_
      rintro e w4 ⟨rfl, hb4⟩
      have B4 : Hid (Below w.heap.size w w4) := B3.out.trans (hb4.mono B3.out.size)
      clear hb4
      go_wp2_with fail
      refine (drawJoinSets_any w _ n _ (by omega) HC.out B4.out).mono ?_
      rintro e w5 ⟨x, y, rfl, hx, hy, hb5⟩
      have B5 : Hid (Below w.heap.size w w5) := B4.out.trans (hb5.mono B4.out.size)
      clear hb5
      obtain ⟨p, pb, q, qb, c1, c2, c3, c4⟩ := HDraw.out x y hx hy
      have C1 : Hid (∀ W, TzTab W → _) := c1
      have C2 : Hid (∀ W, _) := c2
      have C3 : Hid (∀ W, TzTab W → _) := c3
      have C4 : Hid (∀ W, _) := c4
      clear c1 c2 c3 c4
      go_wp2_with fail
      refine (C1.out _ (HT.out.below B5.out)).mono ?_
      rintro e w6 ⟨rfl, hb6⟩
      have B6 : Hid (Below w.heap.size w w6) := B5.out.trans (hb6.mono B5.out.size)
      clear hb6
      go_wp2_with fail
      refine (C2.out _).mono ?_
      rintro e w7 ⟨rfl, hb7⟩
      have B7 : Hid (Below w.heap.size w w7) := B6.out.trans (hb7.mono B6.out.size)
      clear hb7
      go_wp2_with fail
      refine (C3.out _ (HT.out.below B7.out)).mono ?_
      rintro e w8 ⟨rfl, hb8⟩
      have B8 : Hid (Below w.heap.size w w8) := B7.out.trans (hb8.mono B7.out.size)
      clear hb8
      go_wp2_with fail
      refine (C4.out _).mono ?_
      rintro e w9 ⟨rfl, hb9⟩
      have B9 : Hid (Below w.heap.size w w9) := B8.out.trans (hb9.mono B8.out.size)
      clear hb9
      go_wp2_with fail
      refine (T1.out _ (HT.out.below B9.out)).mono ?_
      rintro e w10 ⟨rfl, hb10⟩
      have B10 : Hid (Below w.heap.size w w10) := B9.out.trans (hb10.mono B9.out.size)
      clear hb10
      go_wp2_with fail
      refine (BS.out _).mono ?_
      rintro e w11 ⟨rfl, hb11⟩
      have B11 : Hid (Below w.heap.size w w11) := B10.out.trans (hb11.mono B10.out.size)
      clear hb11
      go_wp2_with fail
      refine (T1.out _ (HT.out.below B11.out)).mono ?_
      rintro e w12 ⟨rfl, hb12⟩
      have B12 : Hid (Below w.heap.size w w12) := B11.out.trans (hb12.mono B11.out.size)
      clear hb12
      go_wp2_with fail
      refine (BS.out _).mono ?_
      rintro e w13 ⟨rfl, hb13⟩
      have B13 : Hid (Below w.heap.size w w13) := B12.out.trans (hb13.mono B12.out.size)
      clear hb13
      go_wp2_with fail
      refine (BA.out _ (HT.out.below B13.out)).mono ?_
      rintro e w14 ⟨rfl, hb14⟩
      have B14 : Hid (Below w.heap.size w w14) := B13.out.trans (hb14.mono B13.out.size)
      clear hb14
      go_wp2_with fail
      refine (BAs.out _).mono ?_
      rintro e w15 ⟨rfl, hb15⟩
      have B15 : Hid (Below w.heap.size w w15) := B14.out.trans (hb15.mono B14.out.size)
      clear hb15
      go_wp2_with fail
      refine (O2.out _).mono ?_
      rintro e w16 ⟨rfl, hb16⟩
      have B16 : Hid (Below w.heap.size w w16) := B15.out.trans (hb16.mono B15.out.size)
      clear hb16
      go_wp2
      go_ret
      exact ⟨rfl, B16.out⟩
    | false =>
      have hp : pairV (toldP f) = .tuple #[.string (str []), .bool false] := by rw [toldP, ho]; rfl
      rw [hp] at J1 M1
      clear hp ho HTb
      go_wp2_with fail
      refine (J1.out _ (HT.out.below B1.out)).mono ?_
      rintro e w2 ⟨rfl, hb2⟩
      have B2 : Hid (Below w.heap.size w w2) := B1.out.trans (hb2.mono B1.out.size)
      clear hb2
      go_wp2_with fail
      refine (M1.out _ (HT.out.below B2.out)).mono ?_
      rintro e w3 ⟨rfl, hb3⟩
      have B3 : Hid (Below w.heap.size w w3) := B2.out.trans (hb3.mono B2.out.size)
      clear hb3
      go_wp2_with fail
      refine (J2.out _ (HT.out.below B3.out)).mono ?_
      rintro e w4 ⟨rfl, hb4⟩
      have B4 : Hid (Below w.heap.size w w4) := B3.out.trans (hb4.mono B3.out.size)
      clear hb4
      go_wp2_with fail
      refine (drawJoinSets_any w _ n _ (by omega) HC.out B4.out).mono ?_
      rintro e w5 ⟨x, y, rfl, hx, hy, hb5⟩
      have B5 : Hid (Below w.heap.size w w5) := B4.out.trans (hb5.mono B4.out.size)
      clear hb5
      obtain ⟨p, pb, q, qb, c1, c2, c3, c4⟩ := HDraw.out x y hx hy
      have C1 : Hid (∀ W, TzTab W → _) := c1
      have C2 : Hid (∀ W, _) := c2
      have C3 : Hid (∀ W, TzTab W → _) := c3
      have C4 : Hid (∀ W, _) := c4
      clear c1 c2 c3 c4
      go_wp2_with fail
      refine (C1.out _ (HT.out.below B5.out)).mono ?_
      rintro e w6 ⟨rfl, hb6⟩
      have B6 : Hid (Below w.heap.size w w6) := B5.out.trans (hb6.mono B5.out.size)
      clear hb6
      go_wp2_with fail
      refine (C2.out _).mono ?_
      rintro e w7 ⟨rfl, hb7⟩
      have B7 : Hid (Below w.heap.size w w7) := B6.out.trans (hb7.mono B6.out.size)
      clear hb7
      go_wp2_with fail
      refine (C3.out _ (HT.out.below B7.out)).mono ?_
      rintro e w8 ⟨rfl, hb8⟩
      have B8 : Hid (Below w.heap.size w w8) := B7.out.trans (hb8.mono B7.out.size)
      clear hb8
      go_wp2_with fail
      refine (C4.out _).mono ?_
      rintro e w9 ⟨rfl, hb9⟩
      have B9 : Hid (Below w.heap.size w w9) := B8.out.trans (hb9.mono B8.out.size)
      clear hb9
      go_wp2_with fail
      refine (BA.out _ (HT.out.below B9.out)).mono ?_
      rintro e w10 ⟨rfl, hb10⟩
      have B10 : Hid (Below w.heap.size w w10) := B9.out.trans (hb10.mono B9.out.size)
      clear hb10
      go_wp2_with fail
      refine (BAs.out _).mono ?_
      rintro e w11 ⟨rfl, hb11⟩
      have B11 : Hid (Below w.heap.size w w11) := B10.out.trans (hb11.mono B10.out.size)
      clear hb11
      go_wp2_with fail
      refine (O2.out _).mono ?_
      rintro e w12 ⟨rfl, hb12⟩
      have B12 : Hid (Below w.heap.size w w12) := B11.out.trans (hb12.mono B11.out.size)
      clear hb12
      go_wp2
      go_ret
      exact ⟨rfl, B12.out⟩
  · have hd : decide (1048576 < (n : Int)) = true := by simp; omega
    go_enter Tryd.func7, Tryd.ntmps7
    go_wp2_with (go_at_call 8; refine (big5_any a n cap _).mono ?_; rintro e wq ⟨rfl, hw⟩; rw [hw, hd]; clear hw)
    go_ret
    exact ⟨rfl, Below.refl _ _⟩

end Go.Proofs.YtokgkjfgknjbbaaDoor
