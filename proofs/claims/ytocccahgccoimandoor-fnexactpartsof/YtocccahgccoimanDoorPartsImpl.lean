/- The parts of a line: what the program's function answers, where the library's table of blanks lies as its initialiser lays it; and the law on it. -/
import Derived.Test.YtocccahgccoimanDoorPartsSpec
import Derived.Test.YtocccahgccoimanDoorShelf
import Derived.Test.YtocccahgccoimanDoorTab
namespace Go.Proofs.YtocccahgccoimanDoor
open Go.RowKit

theorem print_any (s : ByteArray) (w : World) (hs : s.size ≤ 1048576) :
    Calls Tryd.prog 17 #[.string s] w fun e w' => e = .returned (.bool (printB s.data.toList)) ∧ w' = w := by
  have HL : Hid (s.data.toList.length = s.size) := by simp [Hid]
  go_enter Tryd.func17, Tryd.ntmps17
  go_wp2
  go_loop [6] (fun iv => ∃ i : Nat, iv = .int .i64 i ∧ i ≤ s.size ∧ (s.data.toList.take i).all okB = true) (fun iv => s.size - (intOf iv).toNat)
  case atStart => exact ⟨0, rfl, Nat.zero_le _, by simp⟩
  case round =>
    obtain ⟨i, rfl, hi, hall⟩ := hrel
    have HA : Hid ((s.data.toList.take i).all okB = true) := hall
    clear hall
    by_cases hlt : i < s.size
    · have hbyte : s[i].toNat < 256 := s[i].toNat_lt
      by_cases hok : 32 ≤ s[i].toNat ∧ s[i].toNat ≤ 126
      · have HK : Hid ((s.data.toList.take (i + 1)).all okB = true) := all_snoc _ i (by rw [HL.out]; exact hlt) HA.out ((okB_iff _).2 hok)
        obtain ⟨k1, k2⟩ := hok
        go_wp2
        go_round
        case rel => exact ⟨i + 1, by go_num, by omega, HK.out⟩
        case measure => simp [intOf]; omega
      · have HF : Hid (printB s.data.toList = false) := print_bad (i := i) (by rw [HL.out]; exact hlt) (by rw [get_list3 s i hlt]; have := okB_iff s[i]; cases hh : okB s[i]; rfl; exact absurd (this.1 hh) hok)
        by_cases k1 : s[i].toNat < 32
        · clear hok
          go_wp2
          go_ret
          rw [HF.out]
          exact ⟨rfl, rfl⟩
        · have k2 : 126 < s[i].toNat := by omega
          clear hok
          go_wp2
          go_ret
          rw [HF.out]
          exact ⟨rfl, rfl⟩
    · have HF : Hid (printB s.data.toList = true) := by
        have := HA.out
        rw [List.take_of_length_le (by rw [HL.out]; omega)] at this
        exact this
      go_wp2
      go_ret
      rw [HF.out]
      exact ⟨rfl, rfl⟩

abbrev Blanks (W : World) : Prop := Lib.TabIs Tryd.prog W "strings.asciiSpace" .u8 Lib.asciiSpaceTab

theorem strClone2 (s : ByteArray) (w : World) (h : s.size ≤ 1048576) :
    Calls Tryd.prog 19 #[.string s] w fun e w' => e = .returned (.string s) ∧ Below w.heap.size w w' := by
  go_enter Tryd.func19, Tryd.ntmps19
  go_wp2_with (go_at_call 24; refine (Tryd.stringslite_Clone _ _ (by omega)).mono ?_; rintro e w1 ⟨rfl, hb1⟩)
  go_ret
  exact ⟨rfl, hb1⟩

theorem fieldsGo_lens : ∀ (l cur : List UInt8), ∀ x ∈ Lib.fieldsGo cur l, x.length ≤ cur.length + l.length
  | [], cur, x, hx => by
    rw [Lib.fieldsGo] at hx
    split at hx
    · simp at hx
    · rw [List.mem_singleton.1 hx]; omega
  | b :: l, cur, x, hx => by
    rw [Lib.fieldsGo] at hx
    split at hx
    · split at hx
      · have := fieldsGo_lens l [] x hx
        simp only [List.length_nil, List.length_cons] at this ⊢; omega
      · rcases List.mem_cons.1 hx with rfl | hx
        · omega
        · have := fieldsGo_lens l [] x hx
          simp only [List.length_nil, List.length_cons] at this ⊢; omega
    · have := fieldsGo_lens l (cur ++ [b]) x hx
      simp only [List.length_append, List.length_cons, List.length_nil] at this ⊢; omega

theorem poEnd_no2 {L : List UInt8} (h : poFlag L = false) (w : World) (ob : Obj) (_ : Below w.heap.size w w) :
    PoEnd L w (.returned (.tuple #[.slice (some ⟨w.heap.size + 1, 0, none⟩) 0 0, .bool false])) ((w.alloc ob).alloc (.cells #[] 9)) := by
  have := poEnd_no (w := w) (w0 := w.alloc ob) h ((Below.refl _ _).alloc (Nat.le_refl _) _) (by simp)
  simpa using this

/-- What holds at each round's head of the program's loop. -/
def PiSlots (F : List (List UInt8)) (base : Nat) (w : World) (out iv : Value) (wr : World) : Prop :=
  ∃ (i g cap : Nat), out = .slice (some ⟨g, 0, none⟩) i cap ∧ iv = .int .i64 i ∧ i ≤ F.length ∧ OwnS wr base g cap i (F.take i) ∧ Below base w wr ∧ base ≤ wr.heap.size

theorem piSlots_step {F : List (List UInt8)} {base i g cap g' cap' : Nat} {w wr w2 w1 : World} (hi : i < F.length) (hown : OwnS wr base g cap i (F.take i)) (hbel : Below base w wr) (hsz : base ≤ wr.heap.size)
    (hb2 : Below wr.heap.size wr w2) {ob : Obj} (hown' : w1.ownsRow base 9 1 (.slice (some ⟨g', 0, none⟩) (i + 1) cap') (i + 1) (sv (F.take i) ++ [.string (str F[i])])) (hgrow : (w2.alloc ob).grownBy w1 (Value.slice (some ⟨g, 0, none⟩) i cap).ownBlock) :
    PiSlots F base w (.slice (some ⟨g', 0, none⟩) (i + 1) cap') (.int .i64 ((i : Int) + 1)) w1 := by
  have hs2 := hb2.size
  refine ⟨i + 1, g', cap', rfl, by simp, by omega, ?_, ?_, ?_⟩
  · unfold OwnS
    rw [show sv (F.take (i + 1)) = sv (F.take i) ++ [.string (str F[i])] by rw [List.take_succ_eq_append_getElem hi, sv, sv, List.map_append]; rfl]
    exact hown'
  · exact (((hbel.trans (hb2.mono hsz)).alloc (by omega) ob).grown hgrow (by simp; omega) (fun k hk => (World.ownsRow.lt hown k hk).1))
  · have := hgrow.size; simp at this; omega

theorem found_cell (w : World) (F : List (List UInt8)) (i : Nat) (h : i < F.length) :
    (w.alloc (.cells (F.map fun l => Value.string ⟨l.toArray⟩).toArray 9)).cell? ⟨w.heap.size, i, none⟩ = some (.string (str F[i])) := by
  have := World.news_of_block (heap_alloc_new w (.cells (F.map fun l => Value.string ⟨l.toArray⟩).toArray 9)) i (.string (str F[i])) (by simp [h, str])
  rw [Addr.add_lit, Nat.zero_add] at this
  exact this

set_option maxHeartbeats 1600000 in
set_option maxRecDepth 100000 in
theorem implParts_in (s : ByteArray) (w : World) (hs : s.size ≤ 600) (hpr : printB s.data.toList = true) (hT : Blanks w) :
    Calls Tryd.prog 11 #[.string s] w fun e w' => PoEnd s.data.toList w e w' := by
  obtain ⟨i0, hi, hz0, hz1, hz2⟩ := info_parts Tryd.info9
  have HL : Hid (s.data.toList.length = s.size) := by simp [Hid]
  have HT : Hid (Blanks w) := hT
  have HP : Hid (printB s.data.toList = true) := hpr
  have HA : Hid (∀ (j : Nat) (b : UInt8), s.data.toList[j]? = some b → b.toNat < 128) := by
    intro j b hb
    have := List.all_eq_true.1 hpr b (List.mem_of_getElem? hb)
    rw [okB_iff] at this
    omega
  have HC : Hid (∀ W, _) := fun W => print_any s W (by omega)
  rw [hpr] at HC
  have HF : Hid (∀ x ∈ Lib.fields s.data.toList, x.length ≤ 600) := fun x hx => by
    have := fieldsGo_lens s.data.toList [] x hx
    rw [HL.out] at this
    simp at this
    omega
  clear hT hpr
  have HFl : Hid (∀ W, _) := fun W => Tryd.strings_Fields s W (by omega) HA.out
  generalize hF : Lib.fields s.data.toList = F at *
  have HQ : Hid (Lib.fields s.data.toList = F) := hF
  clear hF
  by_cases hm : 10 < F.length
  · have HN : Hid (poFlag s.data.toList = false) := poFlag_many (by rw [HQ.out]; exact hm)
    go_enter Tryd.func11, Tryd.ntmps11
    go_wp2_with (first
      | (go_at_call 17; refine (HC.out _).mono ?_; rintro e wq ⟨rfl, hw⟩; rw [hw]; clear hw)
      | (go_at_call 18; refine (HFl.out _ HT.out).mono ?_; rintro e wq ⟨rfl, hw⟩; rw [hw]; clear hw))
    go_ret2
    exact poEnd_no2 HN.out w _ (Below.refl _ _)
  · have HY : Hid (poFlag s.data.toList = true) := poFlag_yes (by rw [HL.out]; exact hs) HP.out (by rw [HQ.out]; omega)
    go_enter Tryd.func11, Tryd.ntmps11
    go_wp2_with (first
      | (go_at_call 17; refine (HC.out _).mono ?_; rintro e wq ⟨rfl, hw⟩; rw [hw]; clear hw)
      | (go_at_call 18; refine (HFl.out _ HT.out).mono ?_; rintro e wq ⟨rfl, hw⟩; rw [hw]; clear hw)
      | (at_make; refine wpList_make_own _ rfl _ _ 27 rfl (w.heap.size + 1) 9 i0 _ 1 Tryd.underlying27 hi hz0 hz1 _ _ _ F.length rfl rfl rfl (by rw [hz2]; omega) (by unfold maxLen; omega) (by simp) ?_; intro w0 hown0 hgrow0))
    go_loopw [5, 28] (fun out iv wr => PiSlots F (w.heap.size + 1) (w.alloc (.cells (F.map fun l => Value.string ⟨l.toArray⟩).toArray 9)) out iv wr) (fun _ iv _ => F.length - (intOf iv).toNat)
    case atStart => exact ⟨0, _, _, rfl, rfl, Nat.zero_le _, by simpa [OwnS, sv] using hown0, (Below.refl _ _).grown hgrow0 (by simp) (by simp), by have := hgrow0.size; simpa using this⟩
    case round =>
      obtain ⟨i, g, cap, rfl, rfl, hile, hown, hbel, hsz⟩ := hrel
      by_cases hlt : i < F.length
      · have hc : wr.cell? ⟨w.heap.size, i, none⟩ = some (.string (str F[i])) := (hbel.cell (by show w.heap.size < w.heap.size + 1; omega)).trans (found_cell w F i hlt)
        have hz : (str F[i]).size ≤ 1048576 := by rw [str_size]; have := HF.out F[i] (List.getElem_mem hlt); omega
        have g1 : (0 : Int) ≤ (i : Int) := by omega
        have g2 : (i : Int) < (F.length : Int) := by omega
        go_wp2_with (first
          | (go_at_call 19; refine (strClone2 _ _ hz).mono ?_; rintro e w2 ⟨rfl, hb2⟩)
          | (at_builtin; refine wpList_append_lies _ rfl _ _ 27 rfl (w.heap.size + 1) 9 i0 _ 1 16 Tryd.underlying27 hi hz0 hz1 hz2 rfl (by decide) _ _ _ rfl (World.ownsRow.alloc (OwnS.below hown hb2 hown.lt.2) _) ⟨w2.heap.size, 0, none⟩ 1 1 [.string (str F[i])] rfl rfl (one_at _ _ _) (one_cellS _) (by omega) (by unfold maxLen; omega) (by omega) (by have := hb2.size; simp; omega) (w2.heap.size + 1) (by simp) ?_))
        intro gg cap' w1 hown' hgrow _ _
        have R := piSlots_step hlt hown hbel hsz hb2 hown' hgrow
        clear hown' hgrow hown hbel hb2 hc
        go_wp2
        go_roundw
        case rel => exact R
        case measure => simp [intOf]; omega
      · obtain rfl : i = F.length := by omega
        have HO : Hid (OwnS wr (w.heap.size + 1) g cap F.length F) := by
          have := hown
          rwa [List.take_of_length_le (Nat.le_refl _)] at this
        have HB : Hid (Below w.heap.size w wr) := ((Below.refl _ w).alloc (Nat.le_refl _) _).trans (hbel.mono (by omega))
        clear hown hbel
        go_wp2
        go_ret2
        refine ⟨g, cap, ?_, ?_, HB.out⟩
        · rw [poList_yes HY.out, HQ.out, HY.out]; rfl
        · rw [poList_yes HY.out, HQ.out]; exact HO.out.based (by omega)

theorem implParts_any (s : ByteArray) (w : World) (hs : s.size ≤ 1048576) (hT : Blanks w) :
    Calls Tryd.prog 11 #[.string s] w fun e w' => PoEnd s.data.toList w e w' := by
  by_cases h6 : s.size ≤ 600
  · cases hp : printB s.data.toList with
    | true => exact implParts_in s w h6 hp hT
    | false =>
      clear hT
      have HC : Hid (∀ W, _) := fun W => print_any s W hs
      rw [hp] at HC
      have HF : Hid (poFlag s.data.toList = false) := poFlag_bad hp
      clear hp
      go_enter Tryd.func11, Tryd.ntmps11
      go_wp2_with (go_at_call 17; refine (HC.out _).mono ?_; rintro e wq ⟨rfl, hw⟩; rw [hw]; clear hw)
      go_ret2
      exact poEnd_no HF.out (Below.refl _ _) (Nat.le_refl _)
  · have hs1 : (600 : Int) < s.size := by omega
    have HF : Hid (poFlag s.data.toList = false) := poFlag_long (by simp; omega)
    clear hT
    go_enter Tryd.func11, Tryd.ntmps11
    go_wp2
    go_ret2
    exact poEnd_no HF.out (Below.refl _ _) (Nat.le_refl _)

set_option maxHeartbeats 1600000 in
set_option maxRecDepth 100000 in
theorem fnExactPartsOf_walk (s : ByteArray) (_hs : s.size ≤ maxLen) (w : World) (hT : Blanks w) :
    Calls Tryd.prog 5 #[.string s] w fun e w' => e = .returned (.bool true) ∧ Below w.heap.size w w' := by
  by_cases h : s.size ≤ 1048576
  · have HT : Hid (Blanks w) := hT
    clear hT
    have hlen : (poList s.data.toList).length ≤ 10 := by
      cases hf : poFlag s.data.toList with
      | false => rw [poList_no hf]; simp
      | true => rw [poList_yes hf]; simp [poFlag] at hf; omega
    have HS : Hid (∀ W, _) := fun W => specParts_any s W
    have HI : Hid (∀ W, _) := fun W => implParts_any s W h
    unfold PoEnd at HS HI
    generalize poList s.data.toList = P at *
    generalize poFlag s.data.toList = f at *
    go_enter Tryd.func5, Tryd.ntmps5
    go_wp2_with fail
    refine (HS.out _).mono ?_
    rintro e w1 ⟨g1, c1, rfl, o1, b1⟩
    have O1 : Hid (OwnS w1 w.heap.size g1 c1 P.length P) := o1
    have B1 : Hid (Below w.heap.size w w1) := b1
    clear o1 b1
    go_wp2_with fail
    refine (HI.out _ (tab_below HT.out B1.out)).mono ?_
    rintro e w2 ⟨g2, c2, rfl, o2, b2⟩
    have O2 : Hid (OwnS w2 w1.heap.size g2 c2 P.length P) := o2
    have B2 : Hid (Below w1.heap.size w1 w2) := b2
    clear o2 b2
    have O1b : Hid (OwnS w2 w.heap.size g1 c1 P.length P) := O1.out.below B2.out O1.out.lt.2
    go_wp2_with fail
    refine (eqS_same P g2 c2 g1 c1 _ (by omega) O2.out.cell O1b.out.cell).mono ?_
    rintro e w3 ⟨rfl, q3, rfl⟩
    go_wp2_with fail
    refine (mark1 P w1.heap.size g2 c2 _ (by omega) (O2.out.drewN q3)).mono ?_
    rintro e w4 ⟨rfl, o4, b4⟩
    have O4 : Hid (OwnS w4 w1.heap.size g2 c2 P.length (marks 1 P.length)) := o4
    have B4 : Hid (w2.grownBy w4 (some g2)) := ⟨b4.os, b4.tape, b4.output, b4.size, b4.block⟩
    have O1c : Hid (OwnS w4 w.heap.size g1 c1 P.length P) := O1b.out.moved (B4.out.block g1 O1b.out.lt.2 (fun e => by have h9 := Option.some.inj e; have h8 := O1.out.lt.2; have h7 := O2.out.lt.1; omega))
    clear o4 b4
    go_wp2_with fail
    refine (held1 P.length w1.heap.size g2 c2 _ (by omega) O4.out).mono ?_
    rintro e w5 ⟨rfl, b5⟩
    have B5 : Hid (Below w4.heap.size w4 w5) := b5
    have O5 : Hid (OwnS w5 w1.heap.size g2 c2 P.length (marks 1 P.length)) := O4.out.below b5 O4.out.lt.2
    have O1d : Hid (OwnS w5 w.heap.size g1 c1 P.length P) := O1c.out.below b5 O1c.out.lt.2
    clear b5
    have BT : Hid (Below w.heap.size w w5) := ((B1.out.trans (B2.out.mono B1.out.size)).trans (below_of_grown B4.out (Nat.le_trans B1.out.size B2.out.size) (Nat.le_trans B1.out.size O2.out.lt.1))).trans (B5.out.mono (Nat.le_trans (Nat.le_trans B1.out.size B2.out.size) B4.out.size))
    go_wp2_with fail
    refine (HI.out _ (tab_below HT.out BT.out)).mono ?_
    rintro e w6 ⟨g6, c6, rfl, o6, b6⟩
    have O6 : Hid (OwnS w6 w5.heap.size g6 c6 P.length P) := o6
    have B6 : Hid (Below w5.heap.size w5 w6) := b6
    have O5b : Hid (OwnS w6 w1.heap.size g2 c2 P.length (marks 1 P.length)) := O5.out.below b6 O5.out.lt.2
    have O1e : Hid (OwnS w6 w.heap.size g1 c1 P.length P) := O1d.out.below b6 O1d.out.lt.2
    clear o6 b6
    go_wp2_with fail
    refine (eqS_same P g6 c6 g1 c1 _ (by omega) O6.out.cell O1e.out.cell).mono ?_
    rintro e w7 ⟨rfl, q7, rfl⟩
    go_wp2_with fail
    refine (held1 P.length w1.heap.size g2 c2 _ (by omega) (O5b.out.drewN q7)).mono ?_
    rintro e w8 ⟨rfl, b8⟩
    have B8 : Hid (Below w6.heap.size w6 w8) := ⟨b8.os, b8.tape, b8.output, b8.size, b8.block⟩
    clear b8
    go_wp2
    go_ret
    exact ⟨rfl, (BT.out.trans (B6.out.mono BT.out.size)).trans (B8.out.mono (Nat.le_trans BT.out.size B6.out.size))⟩
  · have h2 : (1048576 : Int) < s.size := by omega
    go_enter Tryd.func5, Tryd.ntmps5
    go_wp2
    go_ret
    exact ⟨rfl, Below.refl _ _⟩

end Go.Proofs.YtocccahgccoimanDoor
