/- The specification's l06Params. -/
import Derived.Test.YtokidlklkgghkaaGreatDoorGSym
namespace Go.Proofs.YtokidlklkgghkaaGreatDoor
open Go.RowKit

def lessS (a b : ByteArray) : Bool := Op.bytesLess a.toList b.toList
def parAt (ps : List ByteArray) (i : Nat) : Bool := nameB (ps.getD i noS) && (decide (i = 0) || lessS (ps.getD (i - 1) noS) (ps.getD i noS))
def parTo (ps : List ByteArray) (k : Nat) : Bool := (List.range k).all (parAt ps)
def paramsB (ps : List ByteArray) : Bool := parTo ps ps.length && decide (ps.length ≤ 6)
theorem parTo_next (ps : List ByteArray) (k : Nat) : parTo ps (k + 1) = (parTo ps k && parAt ps k) := by
  rw [parTo, List.range_succ, List.all_append, ← parTo]
  simp
theorem params_no (ps : List ByteArray) (k : Nat) (h : k < ps.length) (hc : parAt ps k = false) : paramsB ps = false := by
  have : parTo ps ps.length = false := by
    rw [parTo, List.all_eq_false]
    exact ⟨k, List.mem_range.2 h, by rw [hc]; decide⟩
  rw [paramsB, this]; rfl
theorem parAt_of (ps : List ByteArray) (k : Nat) (h : k < ps.length) : parAt ps k = (nameB ps[k] && (decide (k = 0) || lessS (ps.getD (k - 1) noS) ps[k])) := by
  rw [parAt]
  simp only [List.getD, List.getElem?_eq_getElem h, Option.getD_some]
theorem getD_is (ps : List ByteArray) (k : Nat) (h : k < ps.length) : ps.getD k noS = ps[k] := by
  simp only [List.getD, List.getElem?_eq_getElem h, Option.getD_some]

set_option maxHeartbeats 3200000 in
set_option maxRecDepth 100000 in
theorem l06Params_any (v : Value) (ps : List ByteArray) (w : World) (hn : ps.length ≤ 1048576) (hz : ∀ s ∈ ps, s.size ≤ 1048576) (h : SRow w v ps) :
    Calls Tryz.prog 78 #[v] w fun e w' => e = .returned (.bool (paramsB ps)) ∧ ∃ q, w' = w.drewN q := by
  have HR : Hid (SRow w v ps) := h
  have HZ : Hid (∀ s ∈ ps, s.size ≤ 1048576) := hz
  obtain ⟨a, cap, rfl⟩ := h.slice
  clear h hz
  go_enter Tryz.func78, Tryz.ntmps78
  go_wp2
  go_loopw [3] (fun iv wr => ∃ k q : Nat, iv = .int .i64 k ∧ k ≤ ps.length ∧ parTo ps k = true ∧ wr = w.drewN q) (fun iv _ => ps.length - (intOf iv).toNat)
  case atStart => exact ⟨0, 0, rfl, Nat.zero_le _, rfl, rfl⟩
  case round =>
    obtain ⟨k, q, rfl, hk, hto, hwr⟩ := hrel
    have HW : Hid (wr = w.drewN q) := hwr
    have HTo : Hid (parTo ps k = true) := hto
    have HRr : Hid (SRow wr (.slice a ps.length cap) ps) := by rw [HW.out]; exact HR.out.below (bel_drewN (Below.refl _ _) q)
    clear hwr hto
    by_cases hlt : k < ps.length
    · have HNx : Hid (_ = _) := parTo_next ps k
      have HAt : Hid (_ = _) := parAt_of ps k hlt
      have HNm : Hid (∀ W, _) := fun W => specVarName_any ps[k] W (HZ.out _ (List.getElem_mem hlt))
      have i4 : (k : Int) < (ps.length : Int) := by omega
      obtain ⟨b, off, rfl, hc1⟩ := HRr.out.at hlt
      cases hm : nameB ps[k] with
      | false =>
        have HV : Hid (paramsB ps = false) := params_no ps k hlt (by rw [HAt.out, hm]; rfl)
        rw [hm] at HNm
        generalize ps[k] = pk at *
        clear HAt HNx HTo
        go_wp2
        go_quiet ((go_at_call 80; refine Calls.quiet_of_same (HNm.out _)))
        go_wp2
        go_ret
        rw [HV.out]
        exact ⟨rfl, _, by rw [HW.out, World.drewN_drewN]⟩
      | true =>
        rw [hm] at HNm
        rcases Nat.eq_zero_or_pos k with hk0 | hk0
        · subst hk0
          have HY : Hid (parTo ps 1 = true) := by rw [Hid, HNx.out, HTo.out, HAt.out, hm]; rfl
          have c0 : wr.cell? ⟨b, off, none⟩ = some (.string ps[0]) := hc1
          have i6 : (0 : Int) < (ps.length : Int) := by omega
          clear hc1 i4
          generalize ps[0] = p0 at *
          clear HAt HNx HTo
          go_wp2
          go_quiet ((go_at_call 80; refine Calls.quiet_of_same (HNm.out _)))
          go_wp2
          go_roundw
          case rel => exact ⟨1, _, rfl, hlt, HY.out, by rw [HW.out, World.drewN_drewN]⟩
          case measure => simp [intOf]; omega
        · obtain ⟨j, rfl⟩ : ∃ j, k = j + 1 := ⟨k - 1, by omega⟩
          obtain ⟨b2, off2, e2, hc2⟩ := HRr.out.at (k := j) (by omega)
          cases e2
          have hwk : IntKind.i64.wrap (j : Int) = (j : Int) := by rw [IntKind.wrap_i64]; omega
          have i5 : (0 : Int) < (j : Int) + 1 := by omega
          have i6 : (j : Int) < (ps.length : Int) := by omega
          have i7 : (j : Int) + 1 < (ps.length : Int) := by omega
          have hgd : ps.getD (j + 1 - 1) noS = ps[j] := getD_is ps j (by omega)
          cases hls : Op.bytesLess ps[j].toList ps[j + 1].toList with
          | true =>
            have HY : Hid (parTo ps (j + 1 + 1) = true) := by rw [Hid, HNx.out, HTo.out, HAt.out, hm, hgd, lessS, hls]; simp
            clear hgd
            generalize ps[j + 1] = p1 at *
            generalize ps[j] = p0 at *
            clear HAt HNx HTo
            go_wp2
            go_quiet ((go_at_call 80; refine Calls.quiet_of_same (HNm.out _)))
            go_wp2
            go_roundw
            case rel => exact ⟨j + 1 + 1, _, by go_num, hlt, HY.out, by rw [HW.out, World.drewN_drewN]⟩
            case measure => simp [intOf]; omega
          | false =>
            have HV : Hid (paramsB ps = false) := params_no ps (j + 1) hlt (by rw [HAt.out, hm, hgd, lessS, hls]; simp)
            clear hgd
            generalize ps[j + 1] = p1 at *
            generalize ps[j] = p0 at *
            clear HAt HNx HTo
            go_wp2
            go_quiet ((go_at_call 80; refine Calls.quiet_of_same (HNm.out _)))
            go_wp2
            go_ret
            rw [HV.out]
            exact ⟨rfl, _, by rw [HW.out, World.drewN_drewN]⟩
    · obtain rfl : k = ps.length := by omega
      have HV : Hid (paramsB ps = decide ((ps.length : Int) ≤ 6)) := by
        rw [Hid, paramsB, HTo.out, Bool.true_and]
        apply decide_eq_decide.2
        omega
      go_wp2
      go_ret
      rw [HV.out]
      exact ⟨rfl, q, HW.out⟩

end Go.Proofs.YtokidlklkgghkaaGreatDoor
