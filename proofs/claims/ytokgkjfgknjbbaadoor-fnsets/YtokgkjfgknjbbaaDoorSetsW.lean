/- The law on the bytes of a drawn set, walked. -/
import Derived.Test.YtokgkjfgknjbbaaDoorSetDraw2
namespace Go.Proofs.YtokgkjfgknjbbaaDoor
open Go.RowKit

set_option maxHeartbeats 3200000 in
set_option maxRecDepth 100000 in
theorem fnSets_walk (a : Option Addr) (n cap : Nat) (w : World) (hcode : CodeRow w (.slice a n cap) n) (hT : TzTab w) :
    Calls Tryd.prog 4 #[.slice a n cap] w fun e w' => e = .returned (.bool true) ∧ Below w.heap.size w w' := by
  by_cases hbig : n ≤ 1048576
  · have hd : decide (1048576 < (n : Int)) = false := by simp; omega
    have HC : Hid (CodeRow w (.slice a n cap) n) := hcode
    have HT : Hid (TzTab w) := hT
    clear hcode hT
    go_enter Tryd.func4, Tryd.ntmps4
    go_wp2_with fail
    refine (big5_any a n cap _).mono ?_
    rintro e wq ⟨rfl, hw⟩
    rw [hw, hd]
    clear hw
    go_wp2_with fail
    refine (drawSets_any w _ n _ (by omega) HC.out (Below.refl _ _)).mono ?_
    rintro e w1 ⟨s, s', rfl, hs, hs', hb1⟩
    have B1 : Hid (Below w.heap.size w w1) := hb1
    clear hb1 hs'
    have hsz : s.size ≤ 1048576 := by have := hs.2; omega
    have HOk : Hid (okL s.data.toList = true) := hs.1
    have HSup : Hid (Sup (inL s.data.toList)) := inL_sup _
    have HBy : Hid (∀ W, TzTab W → _) := fun W h => implSetBytes_any s W h
    have HIn : Hid (∀ b W, b < 256 → _) := fun b W h => implInSet_any s b h W
    have HSp : Hid (∀ W, _) := fun W => specSetBytes_any s W hsz
    have HSo : Hid (∀ W, _) := fun W => implSetOk_any s W
    rw [HOk.out] at HSo
    have hpos := okL_some hs.1
    clear hs
    generalize inL s.data.toList = f at *
    have hlen := bytes_len f
    have HMem : Hid (memB (bytesB f) = f) := mem_bytes HSup.out
    obtain ⟨l, hl⟩ : ∃ l, l = bytesB f := ⟨_, rfl⟩
    have HAsc : Hid (∀ i (h : i + 1 < l.length), l[i].toNat < l[i + 1].toNat) := fun i h => by subst hl; exact bytes_asc f i h
    have HSet : Hid (∀ W, TzTab W → _) := fun W h => implSetOf_any (str (bytesB f)) W (by rw [str_size]; omega) h
    rw [str_list, setOf_bytes HSup.out] at HSet
    have HBi : Hid (∀ b W, b < 256 → _) := fun b W h => byteIn_any (str (bytesB f)) b h W (by rw [str_size]; omega)
    rw [str_list, HMem.out] at HBi
    obtain ⟨t, ht⟩ : ∃ t, t = str (bytesB f) := ⟨_, rfl⟩
    have htz : t.size = l.length := by rw [ht, hl, str_size]
    have HGet : Hid (∀ i (h : i < t.size) (h' : i < l.length), t[i] = l[i]) := fun i h h' => by subst ht; subst hl; rfl
    -- what is told of the set
    have HTold : Hid (okL (textB f) = true → inL (textB f) = f) := fun h => told_back HSup.out h
    have HTb : Hid (okL (textB f) = true → ∀ W, TzTab W → Calls Tryd.prog 20 #[.string (str (textB f))] W fun e w' => e = .returned (.string t) ∧ Below W.heap.size W w') := fun h W hT => by
      have := implSetBytes_any (str (textB f)) W hT
      rw [str_list, told_back HSup.out h, ← ht] at this
      exact this
    have HTo : Hid (okL (textB f) = true → ∀ W, Calls Tryd.prog 24 #[.string (str (textB f))] W fun e w' => e = .returned (.bool true) ∧ Below W.heap.size W w') := fun h W => by
      have := implSetOk_any (str (textB f)) W
      rw [str_list, h] at this
      exact this
    rw [← ht] at HBy HSp HSet HBi
    rw [← hl] at hpos hlen
    clear ht hl
    go_wp2_with fail
    refine (HBy.out _ (HT.out.below B1.out)).mono ?_
    rintro e w2 ⟨rfl, hb2⟩
    have B2 : Hid (Below w.heap.size w w2) := B1.out.trans (hb2.mono B1.out.size)
    clear hb2
    go_wp2
    go_loopw [6] (fun iv wr => ∃ k : Nat, iv = .int .i64 k ∧ k ≤ 128 ∧ Below w.heap.size w wr) (fun iv _ => 128 - (intOf iv).toNat)
    case atStart => exact ⟨0, rfl, by omega, B2.out⟩
    case round =>
      obtain ⟨k, rfl, hk, hbel⟩ := hrel
      have HB : Hid (Below w.heap.size w wr) := hbel
      clear hbel
      by_cases hlt : k < 128
      · have hlt' : (k : Int) < 128 := by omega
        go_wp2_with (first
          | (go_at_call 21; refine (HIn.out k _ (by omega)).mono ?_; rintro e w3 ⟨rfl, hb3⟩)
          | (go_at_call 22; refine (HBi.out k _ (by omega)).mono ?_; rintro e wq ⟨rfl, hw⟩; rw [hw]; clear hw))
        have B3 : Hid (Below w.heap.size w w3) := HB.out.trans (hb3.mono HB.out.size)
        clear hb3
        go_roundw
        case rel => exact ⟨k + 1, by go_num, by omega, B3.out⟩
        case measure => simp [intOf]; omega
      · obtain rfl : k = 128 := by omega
        clear B2
        go_wp2
        go_loopw [7] (fun iv ww => ∃ k : Nat, iv = .int .i64 ((k : Int) + 1) ∧ k + 1 ≤ l.length ∧ Below w.heap.size w ww) (fun iv _ => l.length - (intOf iv).toNat)
        case atStart => exact ⟨0, rfl, hpos, HB.out⟩
        case round =>
          obtain ⟨k, rfl, hk2, hbel⟩ := hrel
          have HBk : Hid (Below w.heap.size w wr) := hbel
          clear hbel HB
          by_cases hlt : k + 1 < l.length
          · have k1 : k < t.size := by omega
            have k2 : k + 1 < t.size := by omega
            have e0 : (t[k]'k1).toNat < (t[k + 1]'k2).toNat := by
              rw [HGet.out k (by omega) (by omega), HGet.out (k + 1) (by omega) (by omega)]
              exact HAsc.out k hlt
            have g2 : (k : Int) < (t.size : Int) := by omega
            have g3 : (k : Int) + 1 < (t.size : Int) := by omega
            have hwk : IntKind.i64.wrap (k : Int) = (k : Int) := by rw [IntKind.wrap_i64]; omega
            have g1 : (0 : Int) ≤ (k : Int) := by omega
            have g6 : (0 : Int) ≤ (k : Int) + 1 := by omega
            clear htz
            go_wp2
            go_quiet (fail)
            go_wp2
            go_roundw
            case rel => exact ⟨k + 1, by go_num, by omega, bel_drewN HBk.out _⟩
            case measure => simp [intOf]; omega
          · obtain hkl : k + 1 = l.length := by omega
            have g5 : ¬ (k : Int) + 1 < (t.size : Int) := by omega
            cases ho : okL (textB f) with
            | true =>
              have hp : pairV (toldP f) = .tuple #[.string (str (textB f)), .bool true] := by rw [toldP, ho]; rfl
              have HTb2 : Hid (∀ W, TzTab W → _) := HTb.out ho
              have HTo2 : Hid (∀ W, _) := HTo.out ho
              rw [hp] at HSet
              clear hp ho HTb HTo HTold
              generalize str (textB f) = tx at *
              go_wp2_with fail
              refine (HSet.out _ (HT.out.below HBk.out)).mono ?_
              rintro e w4 ⟨rfl, hb4⟩
              have B4 : Hid (Below w.heap.size w w4) := HBk.out.trans (hb4.mono HBk.out.size)
              clear hb4
              go_wp2_with fail
              refine (HSo.out _).mono ?_
              rintro e w5 ⟨rfl, hb5⟩
              have B5 : Hid (Below w.heap.size w w5) := B4.out.trans (hb5.mono B4.out.size)
              clear hb5
              go_wp2_with fail
              refine (HSp.out _).mono ?_
              rintro e w6 ⟨rfl, hb6⟩
              have B6 : Hid (Below w.heap.size w w6) := B5.out.trans (hb6.mono B5.out.size)
              clear hb6
              go_wp2_with fail
              refine (HTb2.out _ (HT.out.below B6.out)).mono ?_
              rintro e w7 ⟨rfl, hb7⟩
              have B7 : Hid (Below w.heap.size w w7) := B6.out.trans (hb7.mono B6.out.size)
              clear hb7
              go_wp2_with fail
              refine (HTo2.out _).mono ?_
              rintro e w8 ⟨rfl, hb8⟩
              have B8 : Hid (Below w.heap.size w w8) := B7.out.trans (hb8.mono B7.out.size)
              clear hb8
              go_wp2
              go_ret
              exact ⟨rfl, B8.out⟩
            | false =>
              have hp : pairV (toldP f) = .tuple #[.string (str []), .bool false] := by rw [toldP, ho]; rfl
              rw [hp] at HSet
              clear hp ho HTb HTo HTold
              go_wp2_with fail
              refine (HSet.out _ (HT.out.below HBk.out)).mono ?_
              rintro e w4 ⟨rfl, hb4⟩
              have B4 : Hid (Below w.heap.size w w4) := HBk.out.trans (hb4.mono HBk.out.size)
              clear hb4
              go_wp2_with fail
              refine (HSo.out _).mono ?_
              rintro e w5 ⟨rfl, hb5⟩
              have B5 : Hid (Below w.heap.size w w5) := B4.out.trans (hb5.mono B4.out.size)
              clear hb5
              go_wp2_with fail
              refine (HSp.out _).mono ?_
              rintro e w6 ⟨rfl, hb6⟩
              have B6 : Hid (Below w.heap.size w w6) := B5.out.trans (hb6.mono B5.out.size)
              clear hb6
              go_wp2
              go_ret
              exact ⟨rfl, B6.out⟩
  · have hd : decide (1048576 < (n : Int)) = true := by simp; omega
    go_enter Tryd.func4, Tryd.ntmps4
    go_wp2_with (go_at_call 8; refine (big5_any a n cap _).mono ?_; rintro e wq ⟨rfl, hw⟩; rw [hw, hd]; clear hw)
    go_ret
    exact ⟨rfl, Below.refl _ _⟩

end Go.Proofs.YtokgkjfgknjbbaaDoor
