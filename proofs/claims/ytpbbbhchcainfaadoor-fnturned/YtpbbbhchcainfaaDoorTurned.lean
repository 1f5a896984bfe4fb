/- The law FnTurned, walked out of contracts: it returns true whatever the bytes that the draws are made of. -/
import Derived.Test.YtpbbbhchcainfaaDoorSealImpl
import Derived.Test.YtpbbbhchcainfaaDoorTurnPure
import Derived.Test.YtpbbbhchcainfaaDoorPlaces
import Derived.Laws.IdiomStrings
import Derived.RegionTactic
namespace Go.Proofs.YtpbbbhchcainfaaDoor
open Go.RowKit

theorem big_all (a : Option Addr) (n cap : Nat) (w : World) :
    Calls Tryd.prog 8 #[.slice a n cap] w fun e w' => e = .returned (.bool (decide (1048576 < (n : Int)))) ∧ w' = w := by
  go_enter Tryd.func8, Tryd.ntmps8
  go_wp2
  go_ret
  exact ⟨rfl, rfl⟩

theorem u8_xor_nat (a b : Nat) (ha : a < 256) (hb : b < 256) : bits .xor .u8 (a : Int) (b : Int) = ((a ^^^ b : Nat) : Int) := by
  show IntKind.u8.wrap ((BitVec.ofInt 8 (a : Int) ^^^ BitVec.ofInt 8 (b : Int)).toNat : Nat) = _
  have e1 : (BitVec.ofInt 8 (a : Int)).toNat = a := by rw [BitVec.toNat_ofInt]; omega
  have e2 : (BitVec.ofInt 8 (b : Int)).toNat = b := by rw [BitVec.toNat_ofInt]; omega
  have hx := Nat.xor_lt_two_pow (n := 8) ha hb
  rw [BitVec.toNat_xor, e1, e2, IntKind.wrap_u8]
  omega

/-- A text made into bytes of its own. -/
theorem bytes_of_text (w : World) (l : List UInt8) :
    ∃ (cap : Nat) (w' : World), (convert 9 22 (.string (str l))).run Tryd.prog w = .ok (.slice (some ⟨w.heap.size, 0, none⟩) l.length cap) w' ∧ l.length ≤ cap ∧ Below w.heap.size w w' ∧
      (∀ j (hj : j < l.length), w'.cell? ⟨w.heap.size, j, none⟩ = some (.int .u8 (l[j].toNat : Int))) ∧ (∀ j, j < l.length → w'.frozen? ⟨w.heap.size, j, none⟩ = false) := by
  have h := run_bytes_of_string (P := Tryd.prog) w 9 22 5 (str l) Tryd.underlying9 Tryd.underlying22 Tryd.underlying5
  rw [str_size] at h
  have hcap := grownCap_ge w l.length 0 5
  generalize grownCap w l.length 0 5 = cap at *
  have hrs : (bytesRow (str l) cap).size = cap := by
    have := str_size l
    have e : (str l).data.size = l.length := this
    simp [bytesRow, e, this]; omega
  refine ⟨cap, _, h, hcap, ?_, fun j hj => ?_, fun j hj => ?_⟩
  · exact (bel_drewN (Below.refl _ _) 1).alloc (Nat.le_refl _) _
  · have e := World.cell?_alloc_mark w.drew (bytesRow (str l) cap) 5 ((bytesRow (str l) cap).size, (bytesRow (str l) cap).size + 1) j
    have hh : w.drew.heap.size = w.heap.size := rfl
    rw [hh] at e
    rw [e, bytesRow_at (str l) cap j (by show j < (str l).size; rw [str_size]; exact hj)]
    simp [str]
  · have e := World.frozen?_alloc_mark w.drew (bytesRow (str l) cap) 5 (bytesRow (str l) cap).size ((bytesRow (str l) cap).size + 1) j
    have hh : w.drew.heap.size = w.heap.size := rfl
    rw [hh] at e
    rw [e, hrs]
    simp; omega

/-- Bytes of a block, one of them turned, made a text. -/
theorem text_of_turned (w : World) (bb i y cap m : Nat) (l : List UInt8) (hm : l.length = m) (hi : i < m) (hy : y < 256)
    (hcell : ∀ j (hj : j < l.length), w.cell? ⟨bb, j, none⟩ = some (.int .u8 (l[j].toNat : Int))) :
    (convert 22 9 (.slice (some ⟨bb, 0, none⟩) m cap)).run Tryd.prog (w.setCell ⟨bb, i, none⟩ (.int .u8 (y : Int))).drew = .ok (.string (str (l.set i (UInt8.ofNat y)))) (w.setCell ⟨bb, i, none⟩ (.int .u8 (y : Int))).drew := by
  subst hm
  have h := run_convert_bytes_back (P := Tryd.prog) (w.setCell ⟨bb, i, none⟩ (.int .u8 (y : Int))).drew 22 9 5 ⟨bb, 0, none⟩ cap (l.set i (UInt8.ofNat y)) Tryd.underlying22 Tryd.underlying5 Tryd.underlying9 (fun j hj => by
    have hj' : j < l.length := by simpa using hj
    have ea : (⟨bb, 0, none⟩ : Addr).add j = ⟨bb, j, none⟩ := by unfold Addr.add; split <;> simp_all
    rw [ea]
    show (w.setCell ⟨bb, i, none⟩ (.int .u8 (y : Int))).cell? ⟨bb, j, none⟩ = _
    by_cases hij : i = j
    · subst hij
      rw [World.cell?_setCell_same _ _ _ (hcell i hi), List.getElem_set_self, toNat_ofNat y hy]
    · rw [World.cell?_setCell_other _ _ _ _ (fun e => hij (congrArg Addr.off e)), hcell j hj', List.getElem_set_ne hij])
  rw [List.length_set] at h
  exact h

set_option maxHeartbeats 3200000 in
set_option maxRecDepth 100000 in
theorem fnTurned_walk (a : Option Addr) (n cap : Nat) (w : World) (hcode : CodeRow w (.slice a n cap) n) (hT : Turns w) :
    Calls Tryd.prog 3 #[.slice a n cap] w fun e w' => e = .returned (.bool true) ∧ Below w.heap.size w w' := by
  have HC : Hid (CodeRow w (.slice a n cap) n) := hcode
  have HT : Hid (Turns w) := hT
  clear hcode hT
  by_cases hn : n ≤ 1048576
  · have hd : decide (1048576 < (n : Int)) = false := by simp; omega
    go_enter Tryd.func3, Tryd.ntmps3
    go_wp2_with fail
    refine (big_all a n cap _).mono ?_
    rintro e wq ⟨rfl, hw⟩
    rw [hw, hd]
    clear hw wq
    go_wp2_with fail
    refine (drawSumOf_any w _ n _ (by omega) HC.out (Below.refl _ _)).mono ?_
    rintro e w1 ⟨l, rfl, hl, hb1⟩
    have B1 : Hid (Below w.heap.size w w1) := hb1
    clear hb1
    go_wp2_with fail
    refine (drawPlaces_any w _ n _ (by omega) HC.out B1.out).mono ?_
    rintro e w2 ⟨p, rfl, hp, hb2⟩
    have B2 : Hid (Below w.heap.size w w2) := B1.out.trans (hb2.mono B1.out.size)
    clear hb2
    have HP : Hid (Places w1.heap.size p w2) := hp
    clear hp
    have hls : (str l).size = l.length := str_size l
    have hll : (str l).data.toList = l := str_list l
    go_wp2_with fail
    refine (sealed_yes (str l) _ (by omega) (tab_below HT.out B2.out)).mono ?_
    rw [hll]
    rintro e w3 ⟨rfl, hb3⟩
    have B3 : Hid (Below w.heap.size w w3) := B2.out.trans (hb3.mono B2.out.size)
    have HP3 : Hid (Places w1.heap.size p w3) := places_below HP.out hb3
    clear hb3 HP
    have hTl : (str (sealB l)).data.toList = sealB l := str_list _
    have hTs : (str (sealB l)).size = l.length + 4 := by rw [str_size, sealB_len]
    go_wp2_with fail
    refine (unsealed_any (str (sealB l)) _ (by omega) (tab_below HT.out B3.out)).mono ?_
    rw [hTl, usVal_seal l (by omega)]
    rintro e w4 ⟨rfl, hb4⟩
    have B4 : Hid (Below w.heap.size w w4) := B3.out.trans (hb4.mono B3.out.size)
    have HP4 : Hid (Places w1.heap.size p w4) := places_below HP3.out hb4
    obtain ⟨gp, capp, f, rfl, hgp, hcp, hf⟩ := HP4.out.at
    obtain ⟨f00, f01, hc0⟩ := hf 0 (by omega)
    obtain ⟨f10, f11, hc1⟩ := hf 1 (by omega)
    clear hb4 HP3 HP4 hf
    generalize f 0 = f0 at *
    generalize f 1 = f1 at *
    have hTn : (sealB l).length = l.length + 4 := sealB_len l
    obtain ⟨capb, w5, hcv, hcapb, hb5, hcell, hfroz⟩ := bytes_of_text w4 (sealB l)
    have hgp4 : gp < w4.heap.size := World.block_lt_of_cell? w4 _ hc0
    have hc0' : w5.cell? ⟨gp, 0, none⟩ = some (.int .i64 f0) := (World.cell?_of_block (hb5.block gp hgp4)).trans hc0
    have hc1' : w5.cell? ⟨gp, 1, none⟩ = some (.int .i64 f1) := (World.cell?_of_block (hb5.block gp hgp4)).trans hc1
    have B5 : Hid (Below w.heap.size w w5) := B4.out.trans (hb5.mono B4.out.size)
    have HCell : Hid (∀ j (hj : j < (sealB l).length), w5.cell? ⟨w4.heap.size, j, none⟩ = some (.int .u8 ((sealB l)[j].toNat : Int))) := hcell
    clear hc0 hc1 hcell hb5
    rw [hTn] at hcv hcapb hfroz
    go_wp2
    obtain ⟨i, hi, hil⟩ : ∃ i : Nat, f0 % ((l.length : Int) + 4) = i ∧ i < l.length + 4 :=
      ⟨(f0 % ((l.length : Int) + 4)).toNat, by have := Int.emod_nonneg f0 (show (l.length : Int) + 4 ≠ 0 by omega); omega, by have := Int.emod_nonneg f0 (show (l.length : Int) + 4 ≠ 0 by omega); have := Int.emod_lt_of_pos f0 (show (0 : Int) < (l.length : Int) + 4 by omega); omega⟩
    rw [hi]
    obtain ⟨d, hd1, hd2⟩ : ∃ d : Nat, f1.tmod 255 = d ∧ d < 255 :=
      ⟨(f1 % 255).toNat, by rw [Int.tmod_eq_emod_of_nonneg f10]; omega, by omega⟩
    have hci := HCell.out i (by omega)
    have hfi := hfroz i hil
    have hx : (sealB l)[i].toNat < 256 := (sealB l)[i].toNat_lt
    have HX : Hid (UInt8.ofNat (sealB l)[i].toNat = (sealB l)[i]) := by simp [Hid]
    generalize (sealB l)[i].toNat = x at *
    have ex := u8_xor_nat x (1 + d) hx (by omega)
    have HO : Hid (_ ≠ _) := xor_other x (1 + d) hx (by omega) (by omega)
    have hy : x ^^^ (1 + d) < 256 := Nat.xor_lt_two_pow (n := 8) hx (by omega)
    generalize x ^^^ (1 + d) = y at *
    have ex2 : bits .xor .u8 (x : Int) (1 + (d : Int)) = (y : Int) := by rw [← ex]; simp
    have i0 : (0 : Int) ≤ (i : Int) := by omega
    have i1 : (i : Int) < (l.length : Int) + 4 := by omega
    clear hi f00 f01 hfroz ex
    generalize hB : w4.heap.size = bb at *
    go_region
    have hcv2 := text_of_turned w5 bb i y capb (l.length + 4) (sealB l) hTn hil hy HCell.out
    have hu5 : w4.heap.size ≤ bb := Nat.le_of_eq hB
    have B6 : Hid (Below w.heap.size w (w5.setCell ⟨bb, i, none⟩ (.int .u8 (y : Int))).drew) :=
      bel_drewN (B5.out.setCell (Nat.le_trans B4.out.size hu5) _) 1
    have HU : Hid (unOk ((sealB l).set i (UInt8.ofNat y)) = false) :=
      unOk_turned l i (UInt8.ofNat y) (by omega) (fun e => HO.out (e.trans HX.out.symm))
    have HTl : Hid ((str ((sealB l).set i (UInt8.ofNat y))).data.toList = (sealB l).set i (UInt8.ofNat y)) := str_list _
    have hTz : (str ((sealB l).set i (UInt8.ofNat y))).size = l.length + 4 := by rw [str_size, List.length_set, hTn]
    generalize hw6 : (w5.setCell ⟨bb, i, none⟩ (.int .u8 (y : Int))).drew = w6 at *
    generalize (sealB l).set i (UInt8.ofNat y) = T at *
    clear hw6 hci hfi HCell hcv hc0' hc1' ex2 HX HO
    go_wp2_with fail
    refine (unsealed_any (str T) _ (by omega) (tab_below HT.out B6.out)).mono ?_
    rw [HTl.out, usVal_no HU.out]
    rintro e w7 ⟨rfl, hb7⟩
    have B7 : Hid (Below w.heap.size w w7) := B6.out.trans (hb7.mono B6.out.size)
    clear hb7
    go_wp2_with fail
    refine (sumOf_any (str l) _ (by omega) (tab_below HT.out B7.out)).mono ?_
    rw [hll]
    rintro e w8 ⟨rfl, hw⟩
    rw [hw]
    clear hw
    have hvl := sumB_lt l 4294967295 (by omega)
    have hadd := fun W => run_string_add_sum (P := Tryd.prog) (w := W) (str l) ⟨#[120]⟩ (by rw [hls]; show _ + 1 ≤ _; omega)
    have hsz : (str l ++ ⟨#[120]⟩ : ByteArray).size ≤ 1048577 := by rw [ByteArray.size_append, hls]; show _ + 1 ≤ _; omega
    have HA : Hid (∀ W, _) := fun W => sumMore_any (sumB 4294967295 l) ⟨#[120]⟩ W hvl (by decide)
    have HE : Hid (∀ W, _) := fun W => sumOf_any (str l ++ ⟨#[120]⟩) W hsz
    have hS : sumB 4294967295 (str l ++ ⟨#[120]⟩ : ByteArray).data.toList = sumB (sumB 4294967295 l) (⟨#[120]⟩ : ByteArray).data.toList := by
      have e : (str l ++ ⟨#[120]⟩ : ByteArray).data.toList = l ++ [120] := by simp [str]
      rw [e, sumB_app]
    rw [hS] at HE
    clear hS hsz hvl
    generalize sumB (sumB 4294967295 l) (⟨#[120]⟩ : ByteArray).data.toList = Z at *
    generalize sumB 4294967295 l = V at *
    generalize (str l ++ ⟨#[120]⟩ : ByteArray) = X at *
    go_wp2_with fail
    refine (HA.out _ (tab_below HT.out B7.out)).mono ?_
    rintro e w9 ⟨rfl, hw⟩
    rw [hw]
    clear hw
    go_wp2_with fail
    refine (HE.out _ (tab_below HT.out B7.out)).mono ?_
    rintro e w10 ⟨rfl, hw⟩
    rw [hw]
    clear hw
    go_wp2
    go_ret
    exact ⟨rfl, B7.out⟩
  · have h2 : (1048576 : Int) < n := by omega
    have hd : decide (1048576 < (n : Int)) = true := by simp; omega
    go_enter Tryd.func3, Tryd.ntmps3
    go_wp2_with fail
    refine (big_all a n cap _).mono ?_
    rintro e wq ⟨rfl, hw⟩
    rw [hw, hd]
    clear hw wq
    go_wp2
    go_ret
    exact ⟨rfl, Below.refl _ _⟩

end Go.Proofs.YtpbbbhchcainfaaDoor
