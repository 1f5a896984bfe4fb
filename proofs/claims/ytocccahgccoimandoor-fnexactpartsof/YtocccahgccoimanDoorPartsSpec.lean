/- The parts of a line: what the specification's function answers, at every text of at most 1048576 bytes. -/
import Derived.Test.YtocccahgccoimanDoorStrs
import Derived.Test.YtocccahgccoimanDoorPartsPure
import Derived.Deep.AppendLies
namespace Go.Proofs.YtocccahgccoimanDoor
open Go.RowKit

theorem Tryd.info9 : (Tryd.prog.info? 9).map (fun i => (i.zero, i.size, i.bytes)) = some (some (.string ⟨#[]⟩), 1, 16) := by kernel_rfl

theorem get_list3 (s : ByteArray) (j : Nat) (h : j < s.size) : s.data.toList[j]'(by simpa using h) = s[j] := rfl

theorem run_slice_cur {P : Program} (w : World) (t : TypeId) (s : ByteArray) (b i : Nat) (ht : P.underlying t = some .string) (h1 : b ≤ i) (h2 : i ≤ s.size) :
    (Instr.slice t (.string s) (some (.int .i64 (b : Int))) (some (.int .i64 (i : Int))) none).run P w = .ok (.string (str ((s.data.toList.take i).drop b))) w := by
  rw [run_slice_string w t s .i64 .i64 b i ht (by omega) (by omega) (by omega)]
  congr 2
  apply ByteArray.ext
  apply Array.toList_inj.1
  simp [str, ByteArray.data_extract, List.drop_take]

/-- What holds at each round's head. -/
def PoSlots (s : ByteArray) (base : Nat) (w : World) (out bv iv : Value) (wr : World) : Prop :=
  ∃ (o : List (List UInt8)) (b i g cap : Nat), out = .slice (some ⟨g, 0, none⟩) o.length cap ∧ bv = .int .i64 b ∧ iv = .int .i64 i ∧ PoRel s.data.toList o b i ∧
    OwnS wr base g cap o.length o ∧ Below base w wr ∧ base ≤ wr.heap.size ∧ b ≤ i

theorem one_cellS (l : List UInt8) : ∀ u ∈ [Value.string (str l)], u.oneCell' = true := by
  intro u hu; simp at hu; subst hu; rfl

theorem poSlots_part {s : ByteArray} {base g cap g' cap' b i n : Nat} {o : List (List UInt8)} {w wr w1 : World} {cur : List UInt8} (hn : n = o.length) (hp : PoRel s.data.toList (o ++ [cur]) b i) (hbi : b ≤ i)
    (hown : OwnS wr base g cap n o) (hbel : Below base w wr) (hsz : base ≤ wr.heap.size) {ob : Obj}
    (hown' : w1.ownsRow base 9 1 (.slice (some ⟨g', 0, none⟩) (n + 1) cap') (n + 1) (sv o ++ [.string (str cur)])) (hgrow : (wr.alloc ob).grownBy w1 (Value.slice (some ⟨g, 0, none⟩) n cap).ownBlock) {x y : Int} (hx : x = b) (hy : y = i) :
    PoSlots s base w (.slice (some ⟨g', 0, none⟩) (n + 1) cap') (.int .i64 x) (.int .i64 y) w1 := by
  subst hn hx hy
  refine ⟨o ++ [cur], b, i, g', cap', by rw [List.length_append, List.length_singleton], rfl, rfl, hp, ?_, ?_, ?_, hbi⟩
  · rw [List.length_append, List.length_singleton]
    unfold OwnS
    rw [show sv (o ++ [cur]) = sv o ++ [.string (str cur)] by simp [sv]]
    exact hown'
  · exact (hbel.alloc hsz ob).grown hgrow (by simp; omega) (fun k hk => (World.ownsRow.lt hown k hk).1)
  · have := hgrow.size; simp at this; omega

/-- What the two functions leave: a list of the parts, in memory of their own, and whether there is one. -/
def PoEnd (L : List UInt8) (w : World) (e : Ending) (w' : World) : Prop :=
  ∃ g cap, e = .returned (.tuple #[.slice (some ⟨g, 0, none⟩) (poList L).length cap, .bool (poFlag L)]) ∧ OwnS w' w.heap.size g cap (poList L).length (poList L) ∧ Below w.heap.size w w'

theorem poEnd_no {L : List UInt8} {w w0 : World} (h : poFlag L = false) (hbel : Below w.heap.size w w0) (hsz : w.heap.size ≤ w0.heap.size) :
    PoEnd L w (.returned (.tuple #[.slice (some ⟨w0.heap.size, 0, none⟩) 0 0, .bool false])) (w0.alloc (.cells #[] 9)) := by
  refine ⟨w0.heap.size, 0, ?_, ?_, hbel.alloc hsz _⟩
  · rw [poList_no h, h]; rfl
  · rw [poList_no h]
    exact World.ownsRow_made w0 #[] 0 hsz (by decide) rfl

set_option maxHeartbeats 1600000 in
set_option maxRecDepth 100000 in
theorem specParts_in (s : ByteArray) (w : World) (hs : s.size ≤ 600) :
    Calls Tryd.prog 10 #[.string s] w fun e w' => PoEnd s.data.toList w e w' := by
  obtain ⟨i0, hi, hz0, hz1, hz2⟩ := info_parts Tryd.info9
  have HL : Hid (s.data.toList.length = s.size) := by simp [Hid]
  go_enter Tryd.func10, Tryd.ntmps10
  go_wp2
  go_loopw [4, 5, 6] (fun out bv iv wr => PoSlots s w.heap.size w out bv iv wr) (fun _ _ iv _ => s.size + 1 - (intOf iv).toNat)
  case atStart => exact ⟨[], 0, 0, _, _, rfl, rfl, rfl, po_start _, World.ownsRow_made _ _ _ (Nat.le_refl _) (by decide) rfl, (Below.refl _ _).alloc (Nat.le_refl _) _, by simp, Nat.le_refl _⟩
  case round =>
    obtain ⟨o, b, i, g, cap, rfl, rfl, rfl, hp, hown, hbel, hsz, hbi⟩ := hrel
    have hile : i ≤ s.size + 1 := by have := hp.2.2.1; rw [HL.out] at this; exact this
    have hol : o.length ≤ i := hp.2.2.2.1
    have HP : Hid (PoRel s.data.toList o b i) := hp
    clear hp
    generalize hn : o.length = n at *
    have HN : Hid (o.length = n) := hn
    clear hn
    by_cases hlt : i < s.size
    · have hbyte : s[i].toNat < 256 := s[i].toNat_lt
      by_cases hok : 32 ≤ s[i].toNat ∧ s[i].toNat ≤ 126
      · have HK : Hid (okB s[i] = true) := (okB_iff _).2 hok
        obtain ⟨k1, k2⟩ := hok
        by_cases he : s[i].toNat = 32
        · by_cases hb : b < i
          · have hsl := fun W => run_slice_cur (P := Tryd.prog) W 9 s b i Tryd.underlying9 hbi (by omega)
            go_wp2_with (at_builtin; refine wpList_append_lies _ rfl _ _ 27 rfl w.heap.size 9 i0 _ 1 16 Tryd.underlying27 hi hz0 hz1 hz2 rfl (by decide) _ _ _ rfl (World.ownsRow.alloc hown _) ⟨wr.heap.size, 0, none⟩ 1 1 [.string (str ((s.data.toList.take i).drop b))] rfl rfl (one_at _ _ _) (one_cellS _) (by omega) (by unfold maxLen; omega) (by omega) (by simp; omega) (wr.heap.size + 1) (by simp) ?_)
            intro gg cap' w1 hown' hgrow _ _
            have R := poSlots_part (b := i + 1) (i := i + 1) (x := (i : Int) + 1) (y := (i : Int) + 1) HN.out.symm (po_part HP.out (by rw [HL.out]; exact hlt) HK.out he hb) (Nat.le_refl _) hown hbel hsz hown' hgrow (by omega) (by omega)
            clear hown' hgrow hown hbel
            go_wp2
            go_roundw
            case rel => exact R
            case measure => simp [intOf]; omega
          · have R : PoSlots s w.heap.size w (.slice (some ⟨g, 0, none⟩) n cap) (.int .i64 ((i : Int) + 1)) (.int .i64 ((i : Int) + 1)) wr := ⟨o, i + 1, i + 1, g, cap, by rw [HN.out], by simp, by simp, po_skip HP.out (by rw [HL.out]; exact hlt) HK.out he hb, by rw [HN.out]; exact hown, hbel, hsz, Nat.le_refl _⟩
            clear hown hbel
            go_wp2
            go_roundw
            case rel => exact R
            case measure => simp [intOf]; omega
        · have R : PoSlots s w.heap.size w (.slice (some ⟨g, 0, none⟩) n cap) (.int .i64 (b : Int)) (.int .i64 ((i : Int) + 1)) wr := ⟨o, b, i + 1, g, cap, by rw [HN.out], rfl, by simp, po_more HP.out (by rw [HL.out]; exact hlt) HK.out he, by rw [HN.out]; exact hown, hbel, hsz, by omega⟩
          clear hown hbel
          go_wp2
          go_roundw
          case rel => exact R
          case measure => simp [intOf]; omega
      · have HF : Hid (poFlag s.data.toList = false) := poFlag_bad (print_bad (i := i) (by rw [HL.out]; exact hlt) (by rw [get_list3 s i hlt]; have := okB_iff s[i]; cases hh : okB s[i]; rfl; exact absurd (this.1 hh) hok))
        have HB : Hid (Below w.heap.size w wr) := hbel
        clear hown hbel
        by_cases k1 : s[i].toNat < 32
        · clear hok
          go_wp2
          go_ret2
          exact poEnd_no HF.out HB.out hsz
        · have k2 : 126 < s[i].toNat := by omega
          clear hok
          go_wp2
          go_ret2
          exact poEnd_no HF.out HB.out hsz
    · by_cases hie : i = s.size
      · by_cases hb : b < i
        · have hsl := fun W => run_slice_cur (P := Tryd.prog) W 9 s b i Tryd.underlying9 hbi (by omega)
          have HR : Hid (PoRel s.data.toList (o ++ [(s.data.toList.take i).drop b]) (i + 1) (i + 1)) := by
            have e : i = s.data.toList.length := by rw [HL.out]; exact hie
            have h9 := HP.out
            rw [e] at h9 hb ⊢
            exact po_last h9 hb
          have k1 : i ≤ s.size := by omega
          have k2 : s.size ≤ i := by omega
          clear hie
          go_wp2_with (at_builtin; refine wpList_append_lies _ rfl _ _ 27 rfl w.heap.size 9 i0 _ 1 16 Tryd.underlying27 hi hz0 hz1 hz2 rfl (by decide) _ _ _ rfl (World.ownsRow.alloc hown _) ⟨wr.heap.size, 0, none⟩ 1 1 [.string (str ((s.data.toList.take i).drop b))] rfl rfl (one_at _ _ _) (one_cellS _) (by omega) (by unfold maxLen; omega) (by omega) (by simp; omega) (wr.heap.size + 1) (by simp) ?_)
          intro gg cap' w1 hown' hgrow _ _
          have R := poSlots_part (b := i + 1) (i := i + 1) (x := (i : Int) + 1) (y := (i : Int) + 1) HN.out.symm HR.out (Nat.le_refl _) hown hbel hsz hown' hgrow (by omega) (by omega)
          clear hown' hgrow hown hbel
          go_wp2
          go_roundw
          case rel => exact R
          case measure => simp [intOf]; omega
        · have HR : Hid (PoRel s.data.toList o (i + 1) (i + 1)) := by
            have e : i = s.data.toList.length := by rw [HL.out]; exact hie
            have h9 := HP.out
            rw [e] at h9 hb ⊢
            exact po_stop h9 hb
          have k1 : i ≤ s.size := by omega
          have k2 : s.size ≤ i := by omega
          clear hie
          have R : PoSlots s w.heap.size w (.slice (some ⟨g, 0, none⟩) n cap) (.int .i64 ((i : Int) + 1)) (.int .i64 ((i : Int) + 1)) wr := ⟨o, i + 1, i + 1, g, cap, by rw [HN.out], by simp, by simp, HR.out, by rw [HN.out]; exact hown, hbel, hsz, Nat.le_refl _⟩
          clear hown hbel
          go_wp2
          go_roundw
          case rel => exact R
          case measure => simp [intOf]; omega
      · have k1 : s.size < i := by omega
        clear hie
        have HE : Hid (Lib.fields s.data.toList = o ∧ printB s.data.toList = true) := po_end HP.out (by rw [HL.out]; exact k1)
        have HB : Hid (Below w.heap.size w wr) := hbel
        have HO : Hid (OwnS wr w.heap.size g cap n o) := hown
        clear hown hbel
        by_cases hm : 10 < n
        · have HF : Hid (poFlag s.data.toList = false) := poFlag_many (by rw [HE.out.1, HN.out]; exact hm)
          go_wp2
          go_ret2
          exact poEnd_no HF.out HB.out hsz
        · have HF : Hid (poFlag s.data.toList = true) := poFlag_yes (by rw [HL.out]; exact hs) HE.out.2 (by rw [HE.out.1, HN.out]; omega)
          go_wp2
          go_ret2
          refine ⟨g, cap, ?_, ?_, HB.out⟩
          · rw [poList_yes HF.out, HE.out.1, HF.out, HN.out]; rfl
          · rw [poList_yes HF.out, HE.out.1, HN.out]; exact HO.out

theorem specParts_any (s : ByteArray) (w : World) :
    Calls Tryd.prog 10 #[.string s] w fun e w' => PoEnd s.data.toList w e w' := by
  by_cases hs : s.size ≤ 600
  · exact specParts_in s w hs
  · have hs1 : (600 : Int) < s.size := by omega
    have HF : Hid (poFlag s.data.toList = false) := poFlag_long (by simp; omega)
    go_enter Tryd.func10, Tryd.ntmps10
    go_wp2
    go_ret2
    exact poEnd_no HF.out (Below.refl _ _) (Nat.le_refl _)

end Go.Proofs.YtocccahgccoimanDoor
