/- The program's namesOf and FreeOf: names collected, sorted, each once. -/
import Derived.Test.YtjjdeiclfbcicaaGreatDoorXParts
import Derived.Test.YtjjdeiclfbcicaaGreatDoorXAssert
import Derived.Test.YtjjdeiclfbcicaaGreatDoorXFreeP
import Derived.Test.YtjjdeiclfbcicaaGreatDoorShelf
import Derived.Sort.OwnSorted
namespace Go.Proofs.YtjjdeiclfbcicaaGreatDoor
open Go.RowKit

theorem cloneS (s : ByteArray) (w : World) (hz : s.size ≤ 1048576) :
    Calls Tryz.prog 89 #[.string s] w fun e w' => e = .returned (.string s) ∧ Below w.heap.size w w' := by
  have HC : Hid (∀ W, _) := fun W => Tryz.stringslite_Clone s W (by omega)
  go_enter Tryz.func89, Tryz.ntmps89
  go_wp2_with (go_at_call 100; refine (HC.out _).mono ?_; rintro e w1 ⟨rfl, hb1⟩)
  go_ret
  exact ⟨rfl, hb1⟩

/-- A part that is no name is told so. -/
theorem part_noVar {x : NodeD} (h2 : ¬ x.op = 2) : ∃ (t : TypeId) (pv : Value), partV x = .iface t pv ∧ ∀ W, (Instr.typeAssert (.iface t pv) 131 137 true).run Tryz.prog W = .ok (.tuple #[.agg #[.string ⟨#[]⟩], .bool false]) W := by
  by_cases o1 : x.op = 1
  · exact ⟨_, _, by rw [partV, if_pos o1], fun W => Tryz.ta_num_var _ W⟩
  by_cases o3 : x.op = 3
  · exact ⟨_, _, by rw [partV, if_neg o1, if_neg h2, if_pos o3], fun W => Tryz.ta_here_var _ W⟩
  by_cases o11 : x.op = 11
  · exact ⟨_, _, by rw [partV, if_neg o1, if_neg h2, if_neg o3, if_pos o11], fun W => Tryz.ta_not_var _ W⟩
  · exact ⟨_, _, by rw [partV, if_neg o1, if_neg h2, if_neg o3, if_neg o11], fun W => Tryz.ta_pair_var _ W⟩
theorem name_size {i : Nat} {x : NodeD} (h : nodeB i x = true) (h2 : x.op = 2) : x.name.size ≤ 4 := by
  obtain ⟨_, _, hf, _⟩ := node_parts h
  rw [fieldsB, Bool.and_eq_true, if_pos h2, nameB, Bool.and_eq_true, decide_eq_true_eq] at hf
  exact hf.2.2.2

set_option maxHeartbeats 1600000 in
set_option maxRecDepth 100000 in
theorem namesOf_any (v : Value) (ns : List NodeD) (w : World) (hx : exprB ns = true) (h : PRow w v ns) :
    Calls Tryz.prog 79 #[v] w fun e w' => ∃ o, e = .returned o ∧ OwnB w.heap.size o (namesF ns) w' ∧ Below w.heap.size w w' := by
  obtain ⟨i0, hi, hz0, hz1, hz2⟩ := info_parts Tryz.infoStr
  obtain ⟨⟨hl1, hl2⟩, hnode⟩ := exprB_at hx
  have HNd : Hid (∀ k (hk : k < ns.length), nodeB k ns[k] = true) := hnode
  have HR : Hid (PRow w v ns) := h
  obtain ⟨a, cap, rfl⟩ := h.slice
  clear h hnode hx
  have O0 : Hid (OwnB w.heap.size (.slice (some ⟨w.heap.size, 0, none⟩) 0 0) (namesF (ns.take 0)) (w.alloc (.cells #[] 9))) := World.ownsRow_made (base := w.heap.size) w #[] 0 (e := 9) (size := 1) (Nat.le_refl _) (by decide) rfl
  go_enter Tryz.func79, Tryz.ntmps79
  go_wp2
  go_loopw [3, 11] (fun ov iv wr => ∃ k : Nat, iv = .int .i64 k ∧ k ≤ ns.length ∧ OwnB w.heap.size ov (namesF (ns.take k)) wr ∧ Below w.heap.size w wr) (fun _ iv _ => ns.length - (intOf iv).toNat)
  case atStart => exact ⟨0, rfl, Nat.zero_le _, O0.out, (Below.refl _ _).alloc (Nat.le_refl _) _⟩
  case round =>
    obtain ⟨k, rfl, hk, hown, hbw⟩ := hrel
    have HO : Hid (OwnB w.heap.size u3 (namesF (ns.take k)) wr) := hown
    have HB : Hid (Below w.heap.size w wr) := hbw
    clear hown hbw
    by_cases hlt : k < ns.length
    · obtain ⟨b, off, rfl, hpc⟩ := (HR.out.below HB.out).at hlt
      have HNx : Hid (_ = _) := namesF_next ns k hlt
      have hnl : (namesF (ns.take k)).length ≤ 20 := by
        have h1 := namesF_len (ns.take k)
        rw [List.length_take] at h1
        omega
      have i4 : (k : Int) < (ns.length : Int) := by omega
      generalize namesF (ns.take k) = zs at *
      by_cases o2 : ns[k].op = 2
      · have HNx2 : Hid (namesF (ns.take (k + 1)) = zs ++ [ns[k].name]) := by have := HNx.out; rwa [if_pos o2] at this
        have hp : partV ns[k] = .iface 137 (.agg #[.string ns[k].name]) := by rw [partV, if_neg (by omega), if_pos o2]
        rw [hp] at hpc
        have a1 := Tryz.ta_var_var
        have hsz := name_size (HNd.out k hlt) o2
        have HC : Hid (∀ W, _) := fun W => cloneS ns[k].name W (by omega)
        have B0 : Hid (Below w.heap.size w (wr.alloc (.cells #[.string ns[k].name] 137))) := HB.out.alloc HB.out.size _
        have HO0 : Hid (OwnB w.heap.size u3 zs (wr.alloc (.cells #[.string ns[k].name] 137))) := World.ownsRow.alloc HO.out _
        clear hp o2 HNx
        go_wp2_with fail
        refine (HC.out _).mono ?_
        rintro e w2 ⟨rfl, hb2⟩
        have HO2 : Hid (OwnB w.heap.size u3 zs w2) := HO0.out.below hb2
        have HB2 : Hid (Below w.heap.size w w2) := B0.out.trans (hb2.mono B0.out.size)
        clear hb2
        go_wp2_with (at_builtin; refine wpList_append_own _ rfl _ _ 35 rfl w.heap.size 9 i0 _ 1 16 Tryz.underlying35 hi hz0 hz1 hz2 rfl (by decide) _ _ _ rfl (World.ownsRow.alloc HO2.out _) ⟨_, 0, none⟩ 1 1 [.string ns[k].name] rfl rfl (cell_one_new _ _ _) (one_cellF _) (by unfold maxLen; omega) (by omega) (by have h8 := HB2.out.size; simp; omega) ?_)
        intro v' w3 hown3 hgrow _
        have R := ownB_snoc hown3 HO2.out hgrow rfl HB2.out
        clear hown3 hgrow
        go_wp2
        go_roundw
        case rel => exact ⟨k + 1, by go_num, by omega, by rw [HNx2.out]; exact R.1, R.2⟩
        case measure => simp [intOf]; omega
      · have HNx2 : Hid (namesF (ns.take (k + 1)) = zs) := by have := HNx.out; rwa [if_neg o2, List.append_nil] at this
        obtain ⟨t, pv, hp, hta⟩ := part_noVar o2
        rw [hp] at hpc
        have B0 : Hid (Below w.heap.size w (wr.alloc (.cells #[.string ⟨#[]⟩] 137))) := HB.out.alloc HB.out.size _
        have HO0 : Hid (OwnB w.heap.size u3 zs (wr.alloc (.cells #[.string ⟨#[]⟩] 137))) := World.ownsRow.alloc HO.out _
        clear hp o2 HNx
        go_wp2
        go_roundw
        case rel => exact ⟨k + 1, by go_num, by omega, by rw [HNx2.out]; exact HO0.out, B0.out⟩
        case measure => simp [intOf]; omega
    · obtain rfl : k = ns.length := by omega
      rw [List.take_of_length_le (Nat.le_refl _)] at HO
      have i4 : ¬ (ns.length : Int) < (ns.length : Int) := by omega
      go_wp2
      go_ret
      exact ⟨_, rfl, HO.out, HB.out⟩

end Go.Proofs.YtjjdeiclfbcicaaGreatDoor
