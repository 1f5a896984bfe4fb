/- The program's EnvText: each name with its number, put together by the library. -/
import Derived.Test.YtneobgikailhjaaDoorEnvText
import Derived.Test.YtneobgikailhjaaDoorSKit
import Derived.Test.YtneobgikailhjaaDoorDecLaw
import Derived.Lib.Join
import Derived.Deep.AppendLies
import Derived.Maps.AppendAt
namespace Go.Proofs.YtneobgikailhjaaDoor
open Go.RowKit

/-- One of them, as it is told. -/
def tB (x : VarD) : ByteArray := x.1 ++ ⟨#[61]⟩ ++ numB x.2

theorem join_snoc (l : List (List UInt8)) (y sep : List UInt8) (h : l ≠ []) : Lib.join (l ++ [y]) sep = Lib.join l sep ++ sep ++ y := by
  match l, h with
  | x :: r, _ =>
    rw [List.cons_append, Lib.join_cons, Lib.join_cons]
    simp [Lib.joinTail, List.append_assoc]
theorem ba_append (a b : ByteArray) : (a ++ b).data.toList = a.data.toList ++ b.data.toList := by simp
theorem textF_join (xs : List VarD) : ∀ k, k ≤ xs.length → (textF xs k).data.toList = Lib.join (((xs.take k).map tB).map (fun t => t.data.toList)) [44]
  | 0, _ => rfl
  | k + 1, h => by
    have ih := textF_join xs k (by omega)
    rw [textF_next xs k (by omega), List.take_succ_eq_append_getElem (by omega), List.map_append, List.map_append]
    have e : ∀ t : ByteArray, (t ++ xs[k].1 ++ ⟨#[61]⟩ ++ numB xs[k].2).data.toList = t.data.toList ++ (tB xs[k]).data.toList := fun t => by
      rw [tB]
      simp only [ba_append, List.append_assoc]
    rw [e]
    by_cases h0 : 0 < k
    · have hne : ((xs.take k).map tB).map (fun t => t.data.toList) ≠ [] := fun e => by
        have := congrArg List.length e
        rw [List.length_map, List.length_map, List.length_take, List.length_nil] at this
        omega
      have e2 : (sepB k (textF xs k)).data.toList = (textF xs k).data.toList ++ [44] := by rw [sepB, if_pos h0, ba_append]
      rw [e2, ih]
      exact (join_snoc _ _ _ hne).symm
    · obtain rfl : k = 0 := by omega
      simp only [List.take_zero, List.map_nil, List.nil_append, List.map_cons, Lib.join_one]
      rfl
theorem textB_join (xs : List VarD) : Lib.join ((xs.map tB).map (fun t => t.data.toList)) [44] = (textB xs).data.toList := by
  have := textF_join xs xs.length (Nat.le_refl _)
  rw [List.take_of_length_le (Nat.le_refl _)] at this
  exact this.symm

theorem implNum_any (n : Int) (w : World) (h0 : -9223372036854775808 ≤ n) (h1 : n ≤ 9223372036854775807) (hT : Pow10 w) :
    Calls Tryd.prog 15 #[.int .i64 n] w fun e w' => e = .returned (.string (numB n)) ∧ Below w.heap.size w w' := by
  have HP : Hid (Pow10 w) := hT
  clear hT
  by_cases hn : n < 0
  · obtain ⟨m, hm, hm0, hm1, HE⟩ : ∃ m : Int, IntKind.i64.wrap (-n) = m ∧ -9223372036854775808 ≤ m ∧ m ≤ 9223372036854775807 ∧ Hid (numB n = ⟨#[45]⟩ ++ str (Lib.itoa m)) := by
      by_cases hm : n = -9223372036854775808
      · subst hm
        exact ⟨-9223372036854775808, by decide, by omega, by omega, by rw [Hid, numB, if_pos hn, if_pos rfl]⟩
      · exact ⟨-n, by rw [IntKind.wrap_i64]; omega, by omega, by omega, by rw [Hid, numB, if_pos hn, if_neg hm]⟩
    have HD : Hid (∀ W, Pow10 W → _) := fun W hT => implDec_any m W hm0 hm1 hT
    have hz : (str (Lib.itoa m)).size ≤ 1000 := by rw [str_size]; have := Lib.itoa_length_le m hm0 hm1; omega
    have hadd := fun W => run_string_add_sum (P := Tryd.prog) (w := W) ⟨#[45]⟩ (str (Lib.itoa m)) (by show 1 + _ ≤ _; omega)
    clear hz hm0 hm1
    generalize str (Lib.itoa m) = T at *
    go_enter Tryd.func15, Tryd.ntmps15
    go_wp2_with fail
    refine (HD.out _ HP.out).mono ?_
    rintro e w1 ⟨rfl, hb⟩
    go_wp2
    go_ret
    rw [HE.out]
    exact ⟨rfl, hb⟩
  · have HE : Hid (numB n = str (Lib.itoa n)) := by rw [Hid, numB, if_neg hn]
    have HD : Hid (∀ W, Pow10 W → _) := fun W hT => implDec_any n W h0 h1 hT
    generalize str (Lib.itoa n) = T at *
    go_enter Tryd.func15, Tryd.ntmps15
    go_wp2_with fail
    refine (HD.out _ HP.out).mono ?_
    rintro e w1 ⟨rfl, hb⟩
    go_wp2
    go_ret
    rw [HE.out]
    exact ⟨rfl, hb⟩

theorem cells_keep2 {W W' : World} {a b : Addr} {x y : Value} (h : W.cell? a = some x ∧ W.cell? b = some y) (hb : Below W.heap.size W W') : W'.cell? a = some x ∧ W'.cell? b = some y :=
  ⟨cell_keep h.1 hb, cell_keep h.2 hb⟩
theorem cells_far2 {W W' : World} {row : Option Nat} {a b : Addr} {x y : Value} (h : W.cell? a = some x ∧ W.cell? b = some y) (hg : W.grownBy W' row) (h1 : some a.block ≠ row) (h2 : some b.block ≠ row) : W'.cell? a = some x ∧ W'.cell? b = some y :=
  ⟨(hg.cell_far a (World.block_lt_of_cell? W a h.1) h1).trans h.1, (hg.cell_far b (World.block_lt_of_cell? W b h.2) h2).trans h.2⟩

theorem one_cellB (s : ByteArray) : ∀ u ∈ [Value.string s], u.oneCell' = true := by
  intro u hu
  obtain rfl : u = .string s := by simpa using hu
  rfl
theorem lit_two (w : World) (x y : Value) (t : TypeId) : (w.alloc (.cells #[x, y] t)).cell? ⟨w.heap.size, 0, none⟩ = some x ∧ (w.alloc (.cells #[x, y] t)).cell? ⟨w.heap.size, 1, none⟩ = some y := by
  have hb : (w.alloc (.cells #[x, y] t)).heap[w.heap.size]? = some (.cells #[x, y] t) := heap_alloc_new w _
  exact ⟨by rw [cell_of_row _ _ 0 _ _ _ hb]; rfl, by rw [cell_of_row _ _ 1 _ _ _ hb]; rfl⟩

set_option maxHeartbeats 1600000 in
set_option maxRecDepth 100000 in
theorem implEnvText_any (v : Value) (xs : List VarD) (w : World) (hn : xs.length ≤ 1048576) (ht : totS xs ≤ 1048576) (hb : ∀ x ∈ xs, -9223372036854775808 ≤ x.2 ∧ x.2 ≤ 9223372036854775807) (h : VRow w v xs) (hT : Pow10 w) :
    Calls Tryd.prog 8 #[v] w fun e w' => e = .returned (.string (textB xs)) ∧ Below w.heap.size w w' := by
  obtain ⟨j0, hj, hz0, hz1, hz2⟩ := info_parts Tryd.infoStr
  have HR : Hid (VRow w v xs) := h
  have HN : Hid (∀ x ∈ xs, -9223372036854775808 ≤ x.2 ∧ x.2 ≤ 9223372036854775807) := hb
  have HP : Hid (∀ W, Below w.heap.size w W → Pow10 W) := fun W hb => tab_below hT hb
  have HZ : Hid (∀ x ∈ xs, x.1.size ≤ 1048576) := fun x hx => by have := totS_mem hx; omega
  have HT : Hid ((textB xs).size ≤ 140737488355328) := by
    have h1 := textF_size xs hb xs.length (Nat.le_refl _)
    have h2 : totS (xs.take xs.length) ≤ totS xs := totS_take xs _
    show (textF xs xs.length).size ≤ _
    omega
  obtain ⟨a, cap, rfl⟩ := h.slice
  clear h hb ht hT
  go_enter Tryd.func8, Tryd.ntmps8
  go_wp2_with (at_make; refine wpList_make_own _ rfl _ _ 36 rfl w.heap.size 9 j0 _ 1 Tryd.underlying36 hj hz0 hz1 .i64 .i64 _ xs.length rfl rfl rfl (by rw [hz2]; omega) (by unfold maxLen; omega) (Nat.le_refl _) ?_; intro w1 hown1 hg1)
  have HO1 : Hid (OwnB w.heap.size (.slice (some ⟨w.heap.size, 0, none⟩) 0 xs.length) [] w1) := hown1
  have HB1 : Hid (Below w.heap.size w w1) := (Below.refl _ _).grown hg1 (Nat.le_refl _) (fun k h => by cases h)
  clear hown1 hg1
  go_wp2
  go_loopw [3, 11] (fun ov iv wr => ∃ k : Nat, iv = .int .i64 k ∧ k ≤ xs.length ∧ OwnB w.heap.size ov ((xs.take k).map tB) wr ∧ Below w.heap.size w wr) (fun _ iv _ => xs.length - (intOf iv).toNat)
  case atStart => exact ⟨0, rfl, Nat.zero_le _, HO1.out, HB1.out⟩
  case round =>
    obtain ⟨k, rfl, hk, hown, hbw⟩ := hrel
    have HO : Hid (OwnB w.heap.size u3 ((xs.take k).map tB) wr) := hown
    have HB : Hid (Below w.heap.size w wr) := hbw
    have HRr : Hid (VRow wr (.slice a xs.length cap) xs) := HR.out.below hbw
    clear hbw hown
    by_cases hlt : k < xs.length
    · obtain ⟨b, off, rfl, hc1, hc2⟩ := HRr.out.at hlt
      have hx := HN.out xs[k] (List.getElem_mem _)
      have hxz := HZ.out xs[k] (List.getElem_mem _)
      have hnz := numB_size xs[k].2 hx.1 hx.2
      have HM : Hid (∀ W, Pow10 W → _) := fun W hT => implNum_any xs[k].2 W hx.1 hx.2 hT
      have hml : ((xs.take k).map tB).length ≤ k := by rw [List.length_map, List.length_take]; omega
      have HF : Hid ((xs.take (k + 1)).map tB = (xs.take k).map tB ++ [tB xs[k]]) := by
        rw [Hid, List.take_succ_eq_append_getElem hlt, List.map_append]
        rfl
      have a1 := fun W => run_string_add_sum (P := Tryd.prog) (w := W) xs[k].1 ⟨#[61]⟩ (by show _ + 1 ≤ _; omega)
      have a2 := fun W => run_string_add_sum (P := Tryd.prog) (w := W) (xs[k].1 ++ ⟨#[61]⟩) (numB xs[k].2) (by rw [ByteArray.size_append]; show _ + 1 + _ ≤ _; omega)
      rw [show xs[k].1 ++ ⟨#[61]⟩ ++ numB xs[k].2 = tB xs[k] from rfl] at a2
      generalize (xs.take k).map tB = zs at *
      generalize tB xs[k] = TT at *
      generalize xs[k].1 ++ ⟨#[61]⟩ = A1 at *
      generalize numB xs[k].2 = M at *
      clear hx hxz hnz
      have HOb : Hid (OwnB w.heap.size u3 zs (wr.alloc (.cells #[.string xs[k].1, .int .i64 xs[k].2] 31))) := World.ownsRow.alloc HO.out _
      have HBb : Hid (Below w.heap.size w (wr.alloc (.cells #[.string xs[k].1, .int .i64 xs[k].2] 31))) := HB.out.alloc HB.out.size _
      have HPb : Hid (Pow10 (wr.alloc (.cells #[.string xs[k].1, .int .i64 xs[k].2] 31))) := HP.out _ HBb.out
      have hcc := lit_two wr (.string xs[k].1) (.int .i64 xs[k].2) 31
      have hne : some wr.heap.size ≠ u3.ownBlock := fun e => by have := (HO.out.lt _ e.symm).2; omega
      have hge : w.heap.size ≤ wr.heap.size := HB.out.size
      go_wp2
      generalize wr.alloc (.cells #[.string xs[k].1, .int .i64 xs[k].2] 31) = WB at *
      generalize wr.heap.size = H at *
      obtain ⟨g1, g2⟩ := hcc
      have HPd : Hid (Pow10 WB.drew) := HPb.out
      have HOd : Hid (OwnB w.heap.size u3 zs WB.drew) := HOb.out
      go_region_held3 (fun W => W.cell? ⟨H, 0, none⟩ = some (.string xs[k].1) ∧ W.cell? ⟨H, 1, none⟩ = some (.int .i64 xs[k].2))
        ((first | exact cells_keep2 (by assumption) hb2 | exact cells_keep2 (by assumption) ((Below.refl _ _).alloc (Nat.le_refl _) _) | exact cells_far2 (by assumption) hgrow hne hne | go_keep))
        ((first
          | (go_at_call 15; refine (HM.out _ HPd.out).mono ?_; rintro e w2 ⟨rfl, hb2⟩)
          | (show ite (Region.wanted (Oper.mk (some 24) _ _ _ _ _) _ = true) _ _; refine step_append_lies _ (by rfl) _ _ _ (by rfl) w.heap.size 9 j0 _ 1 16 Tryd.underlying36 hj hz0 hz1 hz2 rfl (by omega) _ _ _ (by rfl) (World.ownsRow.alloc (OwnB.below HOd.out hb2) _) ⟨w2.heap.size, 0, none⟩ 1 1 [.string TT] (by rfl) (by rfl) (cell_one_new _ _ _) (one_cellB _) (by omega) (by unfold maxLen; omega) (by omega) (by have h1 := HBb.out.size; have h2 := (bel_of_drew hb2).size; simp; omega) (w2.heap.size + 1) (by simp) ?_; intro gg cap w3 hown3 hgrow hat hlt3)))
      all_goals
        have HB2 : Hid (Below w.heap.size w w2) := HBb.out.trans ((bel_of_drew hb2).mono HBb.out.size)
        have HO2 : Hid (OwnB w.heap.size u3 zs w2) := OwnB.below HOd.out hb2
        have R1 : Hid (OwnB w.heap.size (.slice (some ⟨gg, 0, none⟩) (zs.length + 1) cap) (zs ++ [TT]) w3) := by
          rw [Hid, OwnB, List.length_append, sb, List.map_append]
          exact hown3
        have R2 : Hid (Below w.heap.size w w3) := (HB2.out.alloc HB2.out.size _).grown hgrow (by have := HB2.out.size; simp; omega) (fun g hg => (HO2.out.lt g hg).1)
        clear hown3 hgrow hb2
        go_wp2
        go_roundw
        case rel => exact ⟨k + 1, by go_num, by omega, by rw [HF.out]; exact R1.out, R2.out⟩
        case measure => simp [intOf]; omega
    · obtain rfl : k = xs.length := by omega
      rw [List.take_of_length_le (Nat.le_refl _)] at HO
      have hml : (xs.map tB).length = xs.length := List.length_map _
      have HJ : Hid (Lib.join ((xs.map tB).map (fun t => t.data.toList)) [44] = (textB xs).data.toList) := textB_join xs
      by_cases hx0 : xs.length = 0
      · obtain rfl : xs = [] := List.eq_nil_of_length_eq_zero hx0
        obtain ⟨a3, cap3, hu⟩ := HO.out.row.slice
        have hu' : u3 = .slice a3 0 cap3 := hu
        subst hu'
        have HJn : Hid (∀ W, _) := fun W => Tryd.strings_Join_none a3 cap3 ⟨#[44]⟩ W
        go_wp2_with fail
        refine (HJn.out _).mono ?_
        rintro e wq ⟨rfl, hw⟩
        rw [hw]
        clear hw wq
        go_wp2
        go_ret
        exact ⟨rfl, HB.out⟩
      · obtain ⟨g3, cap3, rfl, hBg, hgl⟩ := World.ownsRow.form HO.out (by rw [hml]; omega)
        have hcap3 : (xs.map tB).length ≤ cap3 := by
          rcases HO.out.2 with ⟨e, _⟩ | ⟨g, cp, cur, e, _, _, hle, _⟩
          · cases e
          · cases e; exact hle
        have hcells : ∀ (j : Nat) x, (xs.map tB)[j]? = some x → wr.cell? ⟨g3, 0 + j, none⟩ = some (.string x) := fun j x hjx => by
          obtain ⟨hlt3, rfl⟩ := List.getElem?_eq_some_iff.1 hjx
          have := World.ownsRow.cells HO.out (g := g3) rfl j _ (sb_at (xs.map tB) j hlt3)
          rwa [Addr.add_lit] at this
        have HJm : Hid (Calls Tryd.prog 16 #[.slice (some ⟨g3, 0, none⟩) (xs.map tB).length cap3, .string ⟨#[44]⟩] wr fun e w' => e = .returned (.string (textB xs)) ∧ Below wr.heap.size wr w') := by
          have h1 := Tryd.strings_Join g3 0 cap3 (xs.map tB) ⟨#[44]⟩ wr hcells hgl (by rw [hml]; omega) hcap3 (by
            have e : Lib.join ((xs.map tB).map (fun t => t.data.toList)) (⟨#[44]⟩ : ByteArray).data.toList = (textB xs).data.toList := HJ.out
            rw [e, Array.length_toList]
            exact HT.out)
          refine h1.mono ?_
          rintro e w' ⟨rfl, hb⟩
          refine ⟨?_, hb⟩
          have e : Lib.join ((xs.map tB).map (fun t => t.data.toList)) (⟨#[44]⟩ : ByteArray).data.toList = (textB xs).data.toList := HJ.out
          rw [e]
        clear hcells hcap3 hml
        generalize (xs.map tB).length = nn at *
        go_wp2_with fail
        refine HJm.out.mono ?_
        rintro e w5 ⟨rfl, hb5⟩
        have HB5 : Hid (Below w.heap.size w w5) := HB.out.trans (hb5.mono HB.out.size)
        clear hb5
        go_wp2
        go_ret
        exact ⟨rfl, HB5.out⟩

end Go.Proofs.YtneobgikailhjaaDoor
