/- The law FnNumbers, walked out of contracts: it returns true whatever the bytes that the draws are made of. -/
import Derived.Test.YtocccahgccoimaaDoorNumPure
import Derived.Test.YtocccahgccoimaaDoorShort
import Derived.Test.YtocccahgccoimaaDoorReadShort
import Derived.Test.YtocccahgccoimaaDoorHexImpl
import Derived.Test.YtocccahgccoimaaDoorUnhexImpl
import Derived.Test.YtocccahgccoimaaDoorRd
import Derived.Test.YtocccahgccoimaaDoorDraw3
namespace Go.Proofs.YtocccahgccoimaaDoor
open Go.RowKit

theorem big_any (a : Option Addr) (n cap : Nat) (w : World) :
    Calls Tryd.prog 4 #[.slice a n cap] w fun e w' => e = .returned (.bool (decide (1048576 < (n : Int)))) ∧ w' = w := by
  go_enter Tryd.func4, Tryd.ntmps4
  go_wp2
  go_ret
  exact ⟨rfl, rfl⟩

theorem numVar (x : Int) (w : World) (h0 : 0 ≤ x) (h1 : x ≤ 1000000000) :
    Calls Tryd.prog 6 #[.int .i64 x] w fun e w' => ∃ V : List UInt8, e = .returned (.tuple #[.string (str V), .bool true]) ∧ Hid (V = varB x.toNat) ∧ V.length ≤ 5 ∧ Below w.heap.size w w' := by
  obtain ⟨n, rfl⟩ := Int.eq_ofNat_of_zero_le h0
  refine (implVar_yes n w (by omega)).mono ?_
  rintro e w' ⟨rfl, hb⟩
  exact ⟨varB n, rfl, by simp [Hid], varB_short 4 n (by omega), hb⟩

theorem numRead (x : Int) (V : List UInt8) (w : World) (h0 : 0 ≤ x) (h1 : x ≤ 1000000000) (hV : V = varB x.toNat) (hl : V.length ≤ 5) :
    Calls Tryd.prog 7 #[.string ({ data := #[120] } ++ str V ++ { data := #[121] }), .int .i64 1] w fun e w' => e = .returned (.tuple #[.int .i64 x, .int .i64 ((V.length : Int) + 1), .bool true]) ∧ w' = w := by
  have e1 : ({ data := #[120] } ++ str V ++ { data := #[121] } : ByteArray) = str ([120] ++ (V ++ [121])) := by
    rw [← str_add, ← str_add, ← ByteArray.append_assoc]; rfl
  rw [e1]
  refine (implRead_any (str ([120] ++ (V ++ [121]))) 1 w (by rw [str_size]; simp; omega)).mono ?_
  rintro e w' ⟨rfl, rfl⟩
  refine ⟨?_, rfl⟩
  have := rvOut_at [120] [121] x.toNat (by omega)
  rw [← hV] at this
  rw [rvVal_of (s := str ([120] ++ (V ++ [121]))) (x := x) (y := (V.length : Int) + 1) (b := true)]
  rw [str_list]
  have e2 : ((([120] : List UInt8).length : Nat) : Int) = 1 := rfl
  rw [e2] at this
  rw [this]
  simp only [Prod.mk.injEq, and_true]
  omega

theorem numDec (x : Int) (w : World) (h0 : 0 ≤ x) (h1 : x ≤ 1000000000) (hT : Pow10 w) :
    Calls Tryd.prog 8 #[.string (str (Lib.itoa x))] w fun e w' => e = .returned (.tuple #[.int .i64 x, .bool true]) ∧ Below w.heap.size w w' := by
  obtain ⟨n, rfl⟩ := Int.eq_ofNat_of_zero_le h0
  have hl := dec_len 9 n (by omega)
  have hy := rdYes_dec n (by omega)
  rw [Lib.itoa_nonneg]
  refine (implRd_any (str (Lib.decDigits n)) w (by rw [str_size]; omega) hT).mono ?_
  rintro e w' ⟨rfl, hb⟩
  rw [str_list, rdVal_yes hy, valD_dec]
  exact ⟨rfl, hb⟩

theorem numShort (S : ByteArray) (w : World) (h : S.size ≤ 300) :
    Calls Tryd.prog 11 #[.string S] w fun e w' => ∃ A : ByteArray, e = .returned (.tuple #[.string A, .bool true]) ∧ Hid (A = str (varB S.size) ++ S) ∧ A.size ≤ 400 ∧ Below w.heap.size w w' := by
  refine (implShort_yes S w (by omega)).mono ?_
  rintro e w' ⟨rfl, hb⟩
  have h5 := varB_short 4 S.size (by omega)
  exact ⟨_, rfl, rfl, by rw [ByteArray.size_append, str_size]; omega, hb⟩

theorem numReadShort (S A : ByteArray) (w : World) (h : S.size ≤ 300) (hA : A = str (varB S.size) ++ S) (hz : A.size ≤ 400) :
    Calls Tryd.prog 12 #[.string A, .int .i64 0] w fun e w' => e = .returned (.tuple #[.string S, .int .i64 A.size, .bool true]) ∧ Below w.heap.size w w' := by
  refine (implReadShort_any A 0 w (by omega)).mono ?_
  rintro e w' ⟨rfl, hb⟩
  refine ⟨congrArg _ ?_, hb⟩
  have hd : A.data.toList = [] ++ (varB S.size ++ S.data.toList) := by rw [hA]; simp [str]
  have hr := rvOut_at [] S.data.toList S.size (by omega)
  rw [← hd] at hr
  have e2 : ((([] : List UInt8).length : Nat) : Int) = 0 := rfl
  rw [e2, Int.zero_add] at hr
  have hsz : A.size = (varB S.size).length + S.size := by rw [hA, ByteArray.size_append, str_size]
  rw [rsVal_yes hr (by omega) (by omega)]
  have e3 : A.extract ((varB S.size).length : Int).toNat (((varB S.size).length : Int) + (S.size : Int)).toNat = S := by
    rw [Int.toNat_natCast, show (((varB S.size).length : Int) + (S.size : Int)).toNat = (varB S.size).length + S.size by omega]
    apply ByteArray.ext
    apply Array.toList_inj.1
    rw [ByteArray.data_extract, Array.toList_extract, hd, List.nil_append, List.extract_eq_take_drop]
    simp
    exact List.take_of_length_le (by simp)
  rw [e3, hsz]
  simp

theorem numHex (S : ByteArray) (w : World) (h : S.size ≤ 300) :
    Calls Tryd.prog 13 #[.string S] w fun e w' => ∃ H : ByteArray, e = .returned (.tuple #[.string H, .bool true]) ∧ Hid (H = str (hexB S.data.toList)) ∧ H.size ≤ 600 ∧ Below w.heap.size w w' := by
  refine (implHex_yes S w (by omega)).mono ?_
  rintro e w' ⟨rfl, hb⟩
  exact ⟨_, rfl, rfl, by rw [str_size, hexB_len]; simp; omega, hb⟩

theorem numUnhex (S H : ByteArray) (w : World) (hH : H = str (hexB S.data.toList)) (hz : H.size ≤ 600) :
    Calls Tryd.prog 14 #[.string H] w fun e w' => e = .returned (.tuple #[.string S, .bool true]) ∧ Below w.heap.size w w' := by
  refine (implUnhex_yes H w (by omega)).mono ?_
  rintro e w' ⟨rfl, hb⟩
  refine ⟨congrArg _ ?_, hb⟩
  have e1 : unB H.data.toList = some S.data.toList := by rw [hH, str_list]; exact unB_hexB _
  rw [unVal_some e1]
  rfl

set_option maxHeartbeats 3200000 in
set_option maxRecDepth 100000 in
theorem fnNumbers_walk (a : Option Addr) (n cap : Nat) (w : World) (hcode : CodeRow w (.slice a n cap) n) (hT : Pow10 w) :
    Calls Tryd.prog 3 #[.slice a n cap] w fun e w' => e = .returned (.bool true) ∧ Below w.heap.size w w' := by
  have HC : Hid (CodeRow w (.slice a n cap) n) := hcode
  have HT : Hid (Pow10 w) := hT
  clear hcode hT
  by_cases hn : n ≤ 1048576
  · have hd : decide (1048576 < (n : Int)) = false := by simp; omega
    go_enter Tryd.func3, Tryd.ntmps3
    go_wp2_with fail
    refine (big_any a n cap _).mono ?_
    rintro e wq ⟨rfl, hw⟩
    rw [hw, hd]
    clear hw wq
    go_wp2_with fail
    refine (drawVarText_any w _ n _ (by omega) HC.out (Below.refl _ _)).mono ?_
    rintro e w1 ⟨y, rfl, ⟨y0, y1⟩, hb1⟩
    have B1 : Hid (Below w.heap.size w w1) := hb1
    clear hb1
    by_cases hy0 : y < 0
    · go_wp2_with fail
      refine (numVar 12345 _ (by omega) (by omega)).mono ?_
      rintro e w2 ⟨V, rfl, HV, hVl, hb2⟩
      have B2 : Hid (Below w.heap.size w w2) := B1.out.trans (hb2.mono B1.out.size)
      clear hb2
      have hVs : (str V).size ≤ 5 := by rw [str_size]; exact hVl
      have hVn : (str V).size = V.length := str_size V
      have HVn : Hid ((str V).size = V.length) := hVn
      clear hVn
      go_wp2_with fail
      refine (numRead 12345 V _ (by omega) (by omega) HV.out hVl).mono ?_
      rintro e w3 ⟨rfl, hw⟩
      rw [hw]
      clear hw w3
      go_wp2_with fail
      refine (implDec_any 12345 _ (by omega) (by omega) (tab_below HT.out B2.out)).mono ?_
      rintro e w4 ⟨rfl, hb4⟩
      have B4 : Hid (Below w.heap.size w w4) := B2.out.trans (hb4.mono B2.out.size)
      clear hb4
      go_wp2_with fail
      refine (numDec 12345 _ (by omega) (by omega) (tab_below HT.out B4.out)).mono ?_
      rintro e w5 ⟨rfl, hb5⟩
      have B5 : Hid (Below w.heap.size w w5) := B4.out.trans (hb5.mono B4.out.size)
      clear hb5
      go_wp2_with fail
      refine (drawHex_any w _ n _ (by omega) HC.out B5.out).mono ?_
      rintro e w6 ⟨l, rfl, hl, hb6⟩
      have B6 : Hid (Below w.heap.size w w6) := B5.out.trans (hb6.mono B5.out.size)
      clear hb6
      have hls : (str l).size = l.length := str_size l
      by_cases h300 : 300 < (str l).size
      · clear hls
        go_wp2_with fail
        refine (numShort ({ data := #[97, 98, 99] }) _ (by decide)).mono ?_
        rintro e w7 ⟨A, rfl, HA, hAs, hb7⟩
        have B7 : Hid (Below w.heap.size w w7) := B6.out.trans (hb7.mono B6.out.size)
        clear hb7
        go_wp2_with fail
        refine (numReadShort ({ data := #[97, 98, 99] }) A _ (by decide) HA.out hAs).mono ?_
        rintro e w8 ⟨rfl, hb8⟩
        have B8 : Hid (Below w.heap.size w w8) := B7.out.trans (hb8.mono B7.out.size)
        clear hb8
        go_wp2_with fail
        refine (numHex ({ data := #[97, 98, 99] }) _ (by decide)).mono ?_
        rintro e w9 ⟨H, rfl, HH, hHs, hb9⟩
        have B9 : Hid (Below w.heap.size w w9) := B8.out.trans (hb9.mono B8.out.size)
        clear hb9
        go_wp2_with fail
        refine (numUnhex ({ data := #[97, 98, 99] }) H _ HH.out hHs).mono ?_
        rintro e w10 ⟨rfl, hb10⟩
        have B10 : Hid (Below w.heap.size w w10) := B9.out.trans (hb10.mono B9.out.size)
        clear hb10
        have hVn : (((V.length : Int) + 1) == ((str V).size : Int) + 1) = true := by rw [HVn.out]; simp
        go_wp2
        go_ret
        exact ⟨rfl, B10.out⟩
      · clear hls
        go_wp2_with fail
        refine (numShort (str l) _ (by omega)).mono ?_
        rintro e w7 ⟨A, rfl, HA, hAs, hb7⟩
        have B7 : Hid (Below w.heap.size w w7) := B6.out.trans (hb7.mono B6.out.size)
        clear hb7
        go_wp2_with fail
        refine (numReadShort (str l) A _ (by omega) HA.out hAs).mono ?_
        rintro e w8 ⟨rfl, hb8⟩
        have B8 : Hid (Below w.heap.size w w8) := B7.out.trans (hb8.mono B7.out.size)
        clear hb8
        go_wp2_with fail
        refine (numHex (str l) _ (by omega)).mono ?_
        rintro e w9 ⟨H, rfl, HH, hHs, hb9⟩
        have B9 : Hid (Below w.heap.size w w9) := B8.out.trans (hb9.mono B8.out.size)
        clear hb9
        go_wp2_with fail
        refine (numUnhex (str l) H _ HH.out hHs).mono ?_
        rintro e w10 ⟨rfl, hb10⟩
        have B10 : Hid (Below w.heap.size w w10) := B9.out.trans (hb10.mono B9.out.size)
        clear hb10
        have hVn : (((V.length : Int) + 1) == ((str V).size : Int) + 1) = true := by rw [HVn.out]; simp
        go_wp2
        go_ret
        exact ⟨rfl, B10.out⟩
    · by_cases hy1 : 1000000000 < y
      · go_wp2_with fail
        refine (numVar 12345 _ (by omega) (by omega)).mono ?_
        rintro e w2 ⟨V, rfl, HV, hVl, hb2⟩
        have B2 : Hid (Below w.heap.size w w2) := B1.out.trans (hb2.mono B1.out.size)
        clear hb2
        have hVs : (str V).size ≤ 5 := by rw [str_size]; exact hVl
        have hVn : (str V).size = V.length := str_size V
        have HVn : Hid ((str V).size = V.length) := hVn
        clear hVn
        go_wp2_with fail
        refine (numRead 12345 V _ (by omega) (by omega) HV.out hVl).mono ?_
        rintro e w3 ⟨rfl, hw⟩
        rw [hw]
        clear hw w3
        go_wp2_with fail
        refine (implDec_any 12345 _ (by omega) (by omega) (tab_below HT.out B2.out)).mono ?_
        rintro e w4 ⟨rfl, hb4⟩
        have B4 : Hid (Below w.heap.size w w4) := B2.out.trans (hb4.mono B2.out.size)
        clear hb4
        go_wp2_with fail
        refine (numDec 12345 _ (by omega) (by omega) (tab_below HT.out B4.out)).mono ?_
        rintro e w5 ⟨rfl, hb5⟩
        have B5 : Hid (Below w.heap.size w w5) := B4.out.trans (hb5.mono B4.out.size)
        clear hb5
        go_wp2_with fail
        refine (drawHex_any w _ n _ (by omega) HC.out B5.out).mono ?_
        rintro e w6 ⟨l, rfl, hl, hb6⟩
        have B6 : Hid (Below w.heap.size w w6) := B5.out.trans (hb6.mono B5.out.size)
        clear hb6
        have hls : (str l).size = l.length := str_size l
        by_cases h300 : 300 < (str l).size
        · clear hls
          go_wp2_with fail
          refine (numShort ({ data := #[97, 98, 99] }) _ (by decide)).mono ?_
          rintro e w7 ⟨A, rfl, HA, hAs, hb7⟩
          have B7 : Hid (Below w.heap.size w w7) := B6.out.trans (hb7.mono B6.out.size)
          clear hb7
          go_wp2_with fail
          refine (numReadShort ({ data := #[97, 98, 99] }) A _ (by decide) HA.out hAs).mono ?_
          rintro e w8 ⟨rfl, hb8⟩
          have B8 : Hid (Below w.heap.size w w8) := B7.out.trans (hb8.mono B7.out.size)
          clear hb8
          go_wp2_with fail
          refine (numHex ({ data := #[97, 98, 99] }) _ (by decide)).mono ?_
          rintro e w9 ⟨H, rfl, HH, hHs, hb9⟩
          have B9 : Hid (Below w.heap.size w w9) := B8.out.trans (hb9.mono B8.out.size)
          clear hb9
          go_wp2_with fail
          refine (numUnhex ({ data := #[97, 98, 99] }) H _ HH.out hHs).mono ?_
          rintro e w10 ⟨rfl, hb10⟩
          have B10 : Hid (Below w.heap.size w w10) := B9.out.trans (hb10.mono B9.out.size)
          clear hb10
          have hVn : (((V.length : Int) + 1) == ((str V).size : Int) + 1) = true := by rw [HVn.out]; simp
          go_wp2
          go_ret
          exact ⟨rfl, B10.out⟩
        · clear hls
          go_wp2_with fail
          refine (numShort (str l) _ (by omega)).mono ?_
          rintro e w7 ⟨A, rfl, HA, hAs, hb7⟩
          have B7 : Hid (Below w.heap.size w w7) := B6.out.trans (hb7.mono B6.out.size)
          clear hb7
          go_wp2_with fail
          refine (numReadShort (str l) A _ (by omega) HA.out hAs).mono ?_
          rintro e w8 ⟨rfl, hb8⟩
          have B8 : Hid (Below w.heap.size w w8) := B7.out.trans (hb8.mono B7.out.size)
          clear hb8
          go_wp2_with fail
          refine (numHex (str l) _ (by omega)).mono ?_
          rintro e w9 ⟨H, rfl, HH, hHs, hb9⟩
          have B9 : Hid (Below w.heap.size w w9) := B8.out.trans (hb9.mono B8.out.size)
          clear hb9
          go_wp2_with fail
          refine (numUnhex (str l) H _ HH.out hHs).mono ?_
          rintro e w10 ⟨rfl, hb10⟩
          have B10 : Hid (Below w.heap.size w w10) := B9.out.trans (hb10.mono B9.out.size)
          clear hb10
          have hVn : (((V.length : Int) + 1) == ((str V).size : Int) + 1) = true := by rw [HVn.out]; simp
          go_wp2
          go_ret
          exact ⟨rfl, B10.out⟩
      · go_wp2_with fail
        refine (numVar y _ (by omega) (by omega)).mono ?_
        rintro e w2 ⟨V, rfl, HV, hVl, hb2⟩
        have B2 : Hid (Below w.heap.size w w2) := B1.out.trans (hb2.mono B1.out.size)
        clear hb2
        have hVs : (str V).size ≤ 5 := by rw [str_size]; exact hVl
        have hVn : (str V).size = V.length := str_size V
        have HVn : Hid ((str V).size = V.length) := hVn
        clear hVn
        go_wp2_with fail
        refine (numRead y V _ (by omega) (by omega) HV.out hVl).mono ?_
        rintro e w3 ⟨rfl, hw⟩
        rw [hw]
        clear hw w3
        go_wp2_with fail
        refine (implDec_any y _ (by omega) (by omega) (tab_below HT.out B2.out)).mono ?_
        rintro e w4 ⟨rfl, hb4⟩
        have B4 : Hid (Below w.heap.size w w4) := B2.out.trans (hb4.mono B2.out.size)
        clear hb4
        go_wp2_with fail
        refine (numDec y _ (by omega) (by omega) (tab_below HT.out B4.out)).mono ?_
        rintro e w5 ⟨rfl, hb5⟩
        have B5 : Hid (Below w.heap.size w w5) := B4.out.trans (hb5.mono B4.out.size)
        clear hb5
        go_wp2_with fail
        refine (drawHex_any w _ n _ (by omega) HC.out B5.out).mono ?_
        rintro e w6 ⟨l, rfl, hl, hb6⟩
        have B6 : Hid (Below w.heap.size w w6) := B5.out.trans (hb6.mono B5.out.size)
        clear hb6
        have hls : (str l).size = l.length := str_size l
        by_cases h300 : 300 < (str l).size
        · clear hls
          go_wp2_with fail
          refine (numShort ({ data := #[97, 98, 99] }) _ (by decide)).mono ?_
          rintro e w7 ⟨A, rfl, HA, hAs, hb7⟩
          have B7 : Hid (Below w.heap.size w w7) := B6.out.trans (hb7.mono B6.out.size)
          clear hb7
          go_wp2_with fail
          refine (numReadShort ({ data := #[97, 98, 99] }) A _ (by decide) HA.out hAs).mono ?_
          rintro e w8 ⟨rfl, hb8⟩
          have B8 : Hid (Below w.heap.size w w8) := B7.out.trans (hb8.mono B7.out.size)
          clear hb8
          go_wp2_with fail
          refine (numHex ({ data := #[97, 98, 99] }) _ (by decide)).mono ?_
          rintro e w9 ⟨H, rfl, HH, hHs, hb9⟩
          have B9 : Hid (Below w.heap.size w w9) := B8.out.trans (hb9.mono B8.out.size)
          clear hb9
          go_wp2_with fail
          refine (numUnhex ({ data := #[97, 98, 99] }) H _ HH.out hHs).mono ?_
          rintro e w10 ⟨rfl, hb10⟩
          have B10 : Hid (Below w.heap.size w w10) := B9.out.trans (hb10.mono B9.out.size)
          clear hb10
          have hVn : (((V.length : Int) + 1) == ((str V).size : Int) + 1) = true := by rw [HVn.out]; simp
          go_wp2
          go_ret
          exact ⟨rfl, B10.out⟩
        · clear hls
          go_wp2_with fail
          refine (numShort (str l) _ (by omega)).mono ?_
          rintro e w7 ⟨A, rfl, HA, hAs, hb7⟩
          have B7 : Hid (Below w.heap.size w w7) := B6.out.trans (hb7.mono B6.out.size)
          clear hb7
          go_wp2_with fail
          refine (numReadShort (str l) A _ (by omega) HA.out hAs).mono ?_
          rintro e w8 ⟨rfl, hb8⟩
          have B8 : Hid (Below w.heap.size w w8) := B7.out.trans (hb8.mono B7.out.size)
          clear hb8
          go_wp2_with fail
          refine (numHex (str l) _ (by omega)).mono ?_
          rintro e w9 ⟨H, rfl, HH, hHs, hb9⟩
          have B9 : Hid (Below w.heap.size w w9) := B8.out.trans (hb9.mono B8.out.size)
          clear hb9
          go_wp2_with fail
          refine (numUnhex (str l) H _ HH.out hHs).mono ?_
          rintro e w10 ⟨rfl, hb10⟩
          have B10 : Hid (Below w.heap.size w w10) := B9.out.trans (hb10.mono B9.out.size)
          clear hb10
          have hVn : (((V.length : Int) + 1) == ((str V).size : Int) + 1) = true := by rw [HVn.out]; simp
          go_wp2
          go_ret
          exact ⟨rfl, B10.out⟩
  · have hd : decide (1048576 < (n : Int)) = true := by simp; omega
    go_enter Tryd.func3, Tryd.ntmps3
    go_wp2_with (go_at_call 4; refine (big_any a n cap _).mono ?_; rintro e wq ⟨rfl, hw⟩; rw [hw, hd]; clear hw)
    go_ret
    exact ⟨rfl, Below.refl _ _⟩

end Go.Proofs.YtocccahgccoimaaDoor
