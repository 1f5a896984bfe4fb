/- The program's namesOf and FreeOf: names collected, sorted, each once. -/
/- The program's FreeOf: names collected, sorted, each once. -/
import Derived.Test.YtcnkegkffmcdmaaGreatDoorXParts
import Derived.Test.YtcnkegkffmcdmaaGreatDoorXAssert
import Derived.Test.YtcnkegkffmcdmaaGreatDoorSortS
namespace Go.Proofs.YtcnkegkffmcdmaaGreatDoor
open Go.RowKit

/-- A part that is no name is told so. -/
theorem part_noVar {x : NodeD} (h2 : ¬ x.op = 2) : ∃ (t : TypeId) (pv : Value), partV x = .iface t pv ∧ ∀ W, (Instr.typeAssert (.iface t pv) 168 174 true).run Tryz.prog W = .ok (.tuple #[.agg #[.string ⟨#[]⟩], .bool false]) W := by
  by_cases o1 : x.op = 1
  · exact ⟨_, _, by rw [partV, if_pos o1], fun W => Tryz.ta_num_var _ W⟩
  by_cases o3 : x.op = 3
  · exact ⟨_, _, by rw [partV, if_neg o1, if_neg h2, if_pos o3], fun W => Tryz.ta_here_var _ W⟩
  by_cases o11 : x.op = 11
  · exact ⟨_, _, by rw [partV, if_neg o1, if_neg h2, if_neg o3, if_pos o11], fun W => Tryz.ta_not_var _ W⟩
  · exact ⟨_, _, by rw [partV, if_neg o1, if_neg h2, if_neg o3, if_neg o11], fun W => Tryz.ta_pair_var _ W⟩
theorem name_size {i : Nat} {x : NodeD} (h : nodeB i x = true) (h2 : x.op = 2) : x.name.size ≤ 4 := by
  obtain ⟨_, _, hf, _⟩ := node_parts h
  rw [fieldsB, Bool.and_eq_true, if_pos h2, nameB, Bool.and_eq_true, decide_eq_true_eq] at hf
  exact hf.2.2.2

set_option maxHeartbeats 1600000 in
set_option maxRecDepth 100000 in
theorem namesOf_any (v : Value) (ns : List NodeD) (w : World) (hx : exprB ns = true) (h : PRow w v ns) :
    Calls Tryz.prog 114 #[v] w fun e w' => ∃ o, e = .returned o ∧ OwnB w.heap.size o (namesF ns) w' ∧ Below w.heap.size w w' := by
  obtain ⟨i0, hi, hz0, hz1, hz2⟩ := info_parts Tryz.infoStr
  obtain ⟨⟨hl1, hl2⟩, hnode⟩ := exprB_at hx
  have HNd : Hid (∀ k (hk : k < ns.length), nodeB k ns[k] = true) := hnode
  have HR : Hid (PRow w v ns) := h
  obtain ⟨a, cap, rfl⟩ := h.slice
  clear h hnode hx
  have O0 : Hid (OwnB w.heap.size (.slice (some ⟨w.heap.size, 0, none⟩) 0 0) (namesF (ns.take 0)) (w.alloc (.cells #[] 9))) := World.ownsRow_made (base := w.heap.size) w #[] 0 (e := 9) (size := 1) (Nat.le_refl _) (by decide) rfl
  go_enter Tryz.func114, Tryz.ntmps114
  go_wp2
  go_loopw [3, 11] (fun ov iv wr => ∃ k : Nat, iv = .int .i64 k ∧ k ≤ ns.length ∧ OwnB w.heap.size ov (namesF (ns.take k)) wr ∧ Below w.heap.size w wr) (fun _ iv _ => ns.length - (intOf iv).toNat)
  case atStart => exact ⟨0, rfl, Nat.zero_le _, O0.out, (Below.refl _ _).alloc (Nat.le_refl _) _⟩
  case round =>
    obtain ⟨k, rfl, hk, hown, hbw⟩ := hrel
    have HO : Hid (OwnB w.heap.size u3 (namesF (ns.take k)) wr) := hown
    have HB : Hid (Below w.heap.size w wr) := hbw
    clear hown hbw
    by_cases hlt : k < ns.length
    · obtain ⟨b, off, rfl, hpc⟩ := (HR.out.below HB.out).at hlt
      have HNx : Hid (_ = _) := namesF_next ns k hlt
      have hnl : (namesF (ns.take k)).length ≤ 20 := by
        have h1 := namesF_len (ns.take k)
        rw [List.length_take] at h1
        omega
      have i4 : (k : Int) < (ns.length : Int) := by omega
      generalize namesF (ns.take k) = zs at *
      by_cases o2 : ns[k].op = 2
      · have HNx2 : Hid (namesF (ns.take (k + 1)) = zs ++ [ns[k].name]) := by have := HNx.out; rwa [if_pos o2] at this
        have hp : partV ns[k] = .iface 174 (.agg #[.string ns[k].name]) := by rw [partV, if_neg (by omega), if_pos o2]
        rw [hp] at hpc
        have a1 := Tryz.ta_var_var
        have hsz := name_size (HNd.out k hlt) o2
        have HC : Hid (∀ W, _) := fun W => cloneS ns[k].name W (by omega)
        have B0 : Hid (Below w.heap.size w (wr.alloc (.cells #[.string ns[k].name] 174))) := HB.out.alloc HB.out.size _
        have HO0 : Hid (OwnB w.heap.size u3 zs (wr.alloc (.cells #[.string ns[k].name] 174))) := World.ownsRow.alloc HO.out _
        clear hp o2 HNx
        go_wp2_with fail
        refine (HC.out _).mono ?_
        rintro e w2 ⟨rfl, hb2⟩
        have HO2 : Hid (OwnB w.heap.size u3 zs w2) := HO0.out.below hb2
        have HB2 : Hid (Below w.heap.size w w2) := B0.out.trans (hb2.mono B0.out.size)
        clear hb2
        go_wp2_with (at_builtin; refine wpList_append_own _ rfl _ _ 37 rfl w.heap.size 9 i0 _ 1 16 Tryz.underlying37 hi hz0 hz1 hz2 rfl (by decide) _ _ _ rfl (World.ownsRow.alloc HO2.out _) ⟨_, 0, none⟩ 1 1 [.string ns[k].name] rfl rfl (cell_one_new _ _ _) (one_cellF _) (by unfold maxLen; omega) (by omega) (by have h8 := HB2.out.size; simp; omega) ?_)
        intro v' w3 hown3 hgrow _
        have R := ownB_snoc hown3 HO2.out hgrow rfl HB2.out
        clear hown3 hgrow
        go_wp2
        go_roundw
        case rel => exact ⟨k + 1, by go_num, by omega, by rw [HNx2.out]; exact R.1, R.2⟩
        case measure => simp [intOf]; omega
      · have HNx2 : Hid (namesF (ns.take (k + 1)) = zs) := by have := HNx.out; rwa [if_neg o2, List.append_nil] at this
        obtain ⟨t, pv, hp, hta⟩ := part_noVar o2
        rw [hp] at hpc
        have B0 : Hid (Below w.heap.size w (wr.alloc (.cells #[.string ⟨#[]⟩] 174))) := HB.out.alloc HB.out.size _
        have HO0 : Hid (OwnB w.heap.size u3 zs (wr.alloc (.cells #[.string ⟨#[]⟩] 174))) := World.ownsRow.alloc HO.out _
        clear hp o2 HNx
        go_wp2
        go_roundw
        case rel => exact ⟨k + 1, by go_num, by omega, by rw [HNx2.out]; exact HO0.out, B0.out⟩
        case measure => simp [intOf]; omega
    · obtain rfl : k = ns.length := by omega
      rw [List.take_of_length_le (Nat.le_refl _)] at HO
      have i4 : ¬ (ns.length : Int) < (ns.length : Int) := by omega
      go_wp2
      go_ret
      exact ⟨_, rfl, HO.out, HB.out⟩

end Go.Proofs.YtcnkegkffmcdmaaGreatDoor

namespace Go.Proofs.YtcnkegkffmcdmaaGreatDoor
open Go.RowKit

open Go.Sort
set_option maxHeartbeats 1600000 in
set_option maxRecDepth 100000 in
theorem implFreeOf_any (v : Value) (ns : List NodeD) (w : World) (hg : errTy w) (h : NRow w v ns) :
    Calls Tryz.prog 102 #[.agg #[v]] w fun e w' => ∃ o, e = .returned o ∧ OwnB w.heap.size o (freeB ns) w' ∧ Below w.heap.size w w' := by
  have HG : Hid (errTy w) := hg
  have HR : Hid (NRow w v ns) := h
  obtain ⟨a, cap, rfl⟩ := h.slice
  have B0 : Hid (Below w.heap.size w (w.alloc (.cells #[.slice a ns.length cap] 52))) := (Below.refl _ _).alloc (Nat.le_refl _) _
  clear h hg
  cases hx : exprB ns with
  | false =>
    have HP : Hid (∀ W, NRow W (.slice a ns.length cap) ns → _) := fun W hw => partsOf_no (.slice a ns.length cap) ns W hw hx
    have HF : Hid (freeB ns = []) := by rw [Hid, freeB, hx]; rfl
    rw [HF.out]
    clear hx
    go_enter Tryz.func102, Tryz.ntmps102
    go_wp2_with fail
    refine (HP.out _ (HR.out.below B0.out)).mono ?_
    rintro e w1 ⟨rfl, hb1⟩
    have B1 : Hid (Below w.heap.size w w1) := B0.out.trans (hb1.mono B0.out.size)
    clear hb1
    go_wp2_with fail
    refine (faultCode_is 1 _ (HG.out.below B1.out)).mono ?_
    rintro e w2 ⟨rfl, hb2⟩
    have B2 : Hid (Below w.heap.size w w2) := B1.out.trans (hb2.mono B1.out.size)
    have O2 : Hid (OwnB w.heap.size (.slice (some ⟨w2.heap.size, 0, none⟩) 0 0) [] (w2.alloc (.cells #[] 9))) := World.ownsRow_made (base := w.heap.size) w2 #[] 0 (e := 9) (size := 1) B2.out.size (by decide) rfl
    clear hb2
    go_wp2
    go_ret
    exact ⟨_, rfl, O2.out, B2.out.alloc B2.out.size _⟩
  | true =>
    have HP : Hid (∀ W, NRow W (.slice a ns.length cap) ns → _) := fun W hw => partsOf_yes (.slice a ns.length cap) ns W hw hx
    have HNm : Hid (∀ v W, PRow W v ns → _) := fun v W hw => namesOf_any v ns W hx hw
    have HF : Hid (freeB ns = freeF ns) := by rw [Hid, freeB, hx]; rfl
    have HFC : Hid (Lib.compact (((namesF ns).map fun s => s.data.toList).mergeSort leL) = (freeF ns).map fun s => s.data.toList) := free_compact ns
    have hnl : (namesF ns).length ≤ 20 := by have h1 := namesF_len ns; have h2 := (exprB_at hx).1; omega
    rw [HF.out]
    clear hx
    go_enter Tryz.func102, Tryz.ntmps102
    go_wp2_with fail
    refine (HP.out _ (HR.out.below B0.out)).mono ?_
    rintro e w1 ⟨o, rfl, ho, hb1⟩
    have B1 : Hid (Below w.heap.size w w1) := B0.out.trans (hb1.mono B0.out.size)
    have P1 : Hid (PRow w1 o ns) := ho.row
    clear hb1 ho B0 HP
    go_wp2_with fail
    refine (faultCode_nil _).mono ?_
    rintro e w2 ⟨rfl, hb2⟩
    have B2 : Hid (Below w.heap.size w w2) := B1.out.trans (hb2.mono B1.out.size)
    have P2 : Hid (PRow w2 o ns) := P1.out.below hb2
    clear hb2 B1 P1
    go_wp2_with fail
    refine (HNm.out _ _ P2.out).mono ?_
    rintro e w3 ⟨o3, rfl, ho3, hb3⟩
    have B3 : Hid (Below w.heap.size w w3) := B2.out.trans (hb3.mono B2.out.size)
    have HO3 : Hid (OwnB w2.heap.size o3 (namesF ns) w3) := ho3
    have hs2 : w.heap.size ≤ w2.heap.size := B2.out.size
    clear ho3 hb3 HNm P2
    by_cases h0 : (namesF ns).length = 0
    · have HFe : Hid (freeF ns = []) := by
        have h1 := HFC.out
        rw [List.eq_nil_of_length_eq_zero h0] at h1
        have h2 : ((freeF ns).map fun s => s.data.toList) = [] := by
          rw [← h1]
          refine List.eq_nil_of_length_eq_zero ?_
          have h3 := compact_len ((List.map (fun s : ByteArray => s.data.toList) []).mergeSort leL)
          rw [List.length_mergeSort, List.map_nil, List.length_nil] at h3
          exact Nat.le_zero.1 h3
        exact List.map_eq_nil_iff.1 h2
      obtain ⟨a3, c3, ho⟩ := HO3.out.row.slice
      rw [h0] at ho
      subst ho
      have HOF : Hid (OwnB w.heap.size (.slice a3 0 c3) (freeF ns) w3) := by
        have h1 := HO3.out
        rw [List.eq_nil_of_length_eq_zero h0] at h1
        rw [Hid, HFe.out]
        refine ⟨h1.1, ?_⟩
        rcases h1.2 with h | ⟨g, cp, cur, e, hg, r⟩
        · exact .inl h
        · exact .inr ⟨g, cp, cur, e, Nat.le_trans hs2 hg, r⟩
      clear h0 hnl
      go_wp2_with fail
      refine (Tryz.slices_Sort_string_none a3 c3 _).mono ?_
      rintro e wq ⟨rfl, hw⟩
      rw [hw]
      clear hw wq
      go_wp2_with fail
      refine (Tryz.slices_Compact_string_empty a3 c3 _).mono ?_
      rintro e wq ⟨rfl, hw⟩
      rw [hw]
      clear hw wq
      go_wp2
      go_ret
      exact ⟨_, rfl, HOF.out, B3.out⟩
    · rcases HO3.out.2 with ⟨_, hn0⟩ | ⟨g, c3, cur, ho, hgb, hblk, h1, h2, h3, h4⟩
      · exact absurd hn0 h0
      subst ho
      obtain ⟨ss, hss⟩ : ∃ ss, ((namesF ns).map fun s => s.data.toList) = ss := ⟨_, rfl⟩
      have hsl : ss.length = (namesF ns).length := by rw [← hss, List.length_map]
      rw [hss] at HFC
      have h4' : cur.toList.take ss.length = ss.map encStr := by
        rw [sb_enc, hss, Nat.mul_one] at h4
        rw [hsl]; exact h4
      rw [← hsl] at h1 hnl
      have hgl : g < w3.heap.size := (Array.getElem?_eq_some_iff.1 hblk).1
      have HS : Hid (_) := Tryz.slices_Sort_string g 0 c3 ss w3 (holds_of_block hblk h4') hgl (by omega)
      have HML : Hid ((ss.mergeSort leL).length = ss.length) := List.length_mergeSort ss
      rw [← hsl]
      clear h0 h4 hsl hss
      go_wp2_with fail
      refine Calls.mono HS.out ?_
      rintro e w4 ⟨rfl, n4, os4, hw4⟩
      have hb4 : w4.heap[g]? = some (.cells (putCells encStr 0 (ss.mergeSort leL).toArray cur) 9 (0, 0)) := by rw [hw4]; exact heap_sorted _ hblk
      have hg4 : w3.grownBy w4 (some g) := by rw [hw4]; exact grownBy_sorted _
      have B4 : Hid (Below w.heap.size w w4) := B3.out.grown hg4 B3.out.size (fun k hk => by cases hk; omega)
      have hsz4 : (putCells encStr 0 (ss.mergeSort leL).toArray cur).size = c3 * 1 := by simp [putCells, h3]
      have ht4 := take_putCells cur (ss.mergeSort leL) (by rw [HML.out]; omega)
      have HC : Hid (_) := Tryz.slices_Compact_string g 0 c3 (ss.mergeSort leL) w4 (holds_of_block hb4 ht4) (by rw [HML.out]; omega) (by rw [HML.out]; omega)
      rw [HML.out] at HC
      have HOC : Hid (∀ q, _) := fun q => own_compact (w := w4) (base := w.heap.size) (q := q) (zs := ss.mergeSort leL) (by omega) hb4 (by rw [HML.out]; omega) h2 hsz4
      clear hw4 hg4 hsz4 ht4 hb4
      go_wp2_with fail
      refine Calls.mono HC.out ?_
      rintro e w5 ⟨rfl, q, hw5⟩
      have HOF : Hid (OwnB w.heap.size (.slice (some ⟨g, 0, none⟩) (Lib.compact (ss.mergeSort leL)).length c3) (freeF ns) w5) := by
        have h1 := HOC.out q
        rw [HML.out] at h1
        rw [hw5]
        exact own_names h1 rfl HFC.out
      have B5 : Hid (Below w.heap.size w w5) := by
        have hg5 : w4.grownBy w5 (some g) := by rw [hw5, ← grow_none (putRow encStr _ _ _ _)]; exact grownBy_sorted _
        exact B4.out.grown hg5 B4.out.size (fun k hk => by cases hk; omega)
      clear hw5
      go_wp2
      go_ret
      exact ⟨_, rfl, HOF.out, B5.out⟩
end Go.Proofs.YtcnkegkffmcdmaaGreatDoor
