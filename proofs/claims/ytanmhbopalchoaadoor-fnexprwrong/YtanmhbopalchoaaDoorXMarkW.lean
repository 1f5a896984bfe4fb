/- The specification's l04Marks, walked. -/
import Derived.Test.YtanmhbopalchoaaDoorXMarks
import Derived.OwnWalk
namespace Go.Proofs.YtanmhbopalchoaaDoor
open Go.RowKit

theorem Tryd.infoBool : (Tryd.prog.info? 4).map (fun i => (i.zero, i.size, i.bytes)) = some (some (.bool false), 1, 1) := by kernel_rfl
theorem far_cell {w : World} {b g k : Nat} {x u : Value} (h : w.cell? ⟨b, 0, none⟩ = some x) (hne : g ≠ b) : (w.setCell ⟨g, k, none⟩ u).cell? ⟨b, 0, none⟩ = some x := by
  rw [World.cell?_setCell_far _ _ _ _ hne]; exact h

theorem made_flags {B g n : Nat} {w : World} (h : w.ownsRow B 4 1 (.slice (some ⟨g, 0, none⟩) n n) n (madeCells (Value.bool false).cells (n * 1)).toList) : OwnF B (.slice (some ⟨g, 0, none⟩) n n) (List.replicate n false) w := by
  rw [Nat.mul_one, show (Value.bool false).cells = #[.bool false] from rfl, toList_madeCells_one] at h
  unfold OwnF
  rw [fv, List.map_replicate, List.length_replicate]
  exact h

set_option maxHeartbeats 3200000 in
set_option maxRecDepth 100000 in
theorem l04Marks_any (v : Value) (ns : List NodeD) (w : World) (hx : exprB ns = true) (h : NRow w v ns) :
    Calls Tryd.prog 38 #[.agg #[v]] w fun e w' => ∃ g m, e = .returned (.slice (some ⟨g, 0, none⟩) ns.length ns.length) ∧ OwnF w.heap.size (.slice (some ⟨g, 0, none⟩) ns.length ns.length) m w' ∧ Marks ns m ∧ Below w.heap.size w w' := by
  obtain ⟨i0, hi, hz0, hz1, hz2⟩ := info_parts Tryd.infoBool
  obtain ⟨⟨hl1, hl2⟩, hnode⟩ := exprB_at hx
  have HNd : Hid (∀ k (hk : k < ns.length), nodeB k ns[k] = true) := hnode
  have HR : Hid (NRow w v ns) := h
  obtain ⟨a, cap, rfl⟩ := h.slice
  clear h hnode hx
  have B0 : Hid (Below w.heap.size w (w.alloc (.cells #[.slice a ns.length cap] 26))) := (Below.refl _ _).alloc (Nat.le_refl _) _
  have E0 : Hid ((w.alloc (.cells #[.slice a ns.length cap] 26)).cell? ⟨w.heap.size, 0, none⟩ = some (.slice a ns.length cap)) := lit_one _ _ _
  go_enter Tryd.func38, Tryd.ntmps38
  have hg0 : (w.alloc (.cells #[.slice a ns.length cap] 26)).heap.size = w.heap.size + 1 := by simp
  have i1 : IntKind.i64.wrap ((ns.length : Int) - 1) = ((ns.length - 1 : Nat) : Int) := by rw [IntKind.wrap_i64]; omega
  have i2 : ((ns.length - 1 : Nat) : Int) < (ns.length : Int) := by omega
  go_wp2_with (at_make; refine wpList_make_full _ rfl _ _ 67 rfl w.heap.size 4 i0 _ 1 Tryd.underlying67 hi hz0 hz1 .i64 .i64 _ _ ns.length rfl rfl rfl rfl (by rw [hz2]; omega) (by unfold maxLen; omega) (by simp) ?_; intro w1 hown hg1; rw [hg0] at hown; have HO1 : Hid (OwnF w.heap.size (.slice (some ⟨w.heap.size + 1, 0, none⟩) ns.length ns.length) (List.replicate ns.length false) w1) := made_flags hown; obtain ⟨hc1, hf1⟩ := OwnF.at HO1.out (k := ns.length - 1) (by simp; omega))
  have HB1 : Hid (Below w.heap.size w w1) := B0.out.grown hg1 B0.out.size (fun k h => by cases h)
  have HE1 : Hid (w1.cell? ⟨w.heap.size, 0, none⟩ = some (.slice a ns.length cap)) := cell_keep E0.out ((Below.refl _ _).grown hg1 (Nat.le_refl _) (fun k h => by cases h))
  clear hown hg1 E0 B0
  have HO2 : Hid (OwnF w.heap.size (.slice (some ⟨w.heap.size + 1, 0, none⟩) ns.length ns.length) ((List.replicate ns.length false).set (ns.length - 1) true) (w1.setCell ⟨w.heap.size + 1, ns.length - 1, none⟩ (.bool true))) := OwnF.set HO1.out _ _
  have HB2 : Hid (Below w.heap.size w (w1.setCell ⟨w.heap.size + 1, ns.length - 1, none⟩ (.bool true))) := HB1.out.setCell (Nat.le_succ _) _
  have HE2 : Hid ((w1.setCell ⟨w.heap.size + 1, ns.length - 1, none⟩ (.bool true)).cell? ⟨w.heap.size, 0, none⟩ = some (.slice a ns.length cap)) := far_cell HE1.out (by omega)
  have HM2 : Hid (MarkTo ns ((ns.length : Int) - 1) ((List.replicate ns.length false).set (ns.length - 1) true)) := markTo_start ns (by omega)
  clear hc1 hf1 HO1 HB1 HE1 hg0
  generalize w1.setCell ⟨w.heap.size + 1, ns.length - 1, none⟩ (.bool true) = w2 at *
  go_loopw [4] (fun iv wr => ∃ (i : Int) (m : List Bool), iv = .int .i64 i ∧ -1 ≤ i ∧ i < ns.length ∧ MarkTo ns i m ∧ OwnF w.heap.size (.slice (some ⟨w.heap.size + 1, 0, none⟩) ns.length ns.length) m wr ∧ Below w.heap.size w wr ∧ wr.cell? ⟨w.heap.size, 0, none⟩ = some (.slice a ns.length cap)) (fun iv _ => (intOf iv + 1).toNat)
  case atStart => exact ⟨(ns.length : Int) - 1, _, by first | rfl | (congr 1; omega), by omega, by omega, HM2.out, HO2.out, HB2.out, HE2.out⟩
  case round =>
    obtain ⟨i, m, rfl, hi0, hi1, hmt, hom, hbw, hE⟩ := hrel
    have HMt : Hid (MarkTo ns i m) := hmt
    have HOm : Hid (OwnF w.heap.size (.slice (some ⟨w.heap.size + 1, 0, none⟩) ns.length ns.length) m wr) := hom
    have HB : Hid (Below w.heap.size w wr) := hbw
    have HE : Hid (wr.cell? ⟨w.heap.size, 0, none⟩ = some (.slice a ns.length cap)) := hE
    clear hmt hom hbw
    by_cases hge : 0 ≤ i
    · obtain ⟨k, rfl⟩ : ∃ k : Nat, i = (k : Int) := ⟨i.toNat, by omega⟩
      have hk : k < ns.length := by omega
      have hml : m.length = ns.length := HMt.out.1
      obtain ⟨b, off, kv, rfl, n0, n1, n2, n3, hI⟩ := (HR.out.below HB.out).at hk
      have hkm : k < m.length := by omega
      obtain ⟨hcm, hfm⟩ := HOm.out.at hkm
      have HHead : Hid (m[k]? = some m[k]) := List.getElem?_eq_getElem hkm
      have HKd : Hid (∀ q ∈ ns[k].kids, 0 ≤ q ∧ q < k) := (node_parts (HNd.out k hk)).2.2.2
      have HKl : Hid ((ns[k].kids.length : Int) = kidsN ns[k].op) := (node_parts (HNd.out k hk)).2.1
      obtain ⟨ak, ck, rfl⟩ := hI.slice
      have HI : Hid (IRow wr (.slice ak ns[k].kids.length ck) ns[k].kids) := hI
      have hkl : ns[k].kids.length ≤ 2 := by
        have := HKl.out
        unfold kidsN at this
        split at this
        · omega
        · split at this <;> omega
      clear hml hI n0 n1 n2
      cases hmk : m[k] with
      | false =>
        have HS : Hid (MarkTo ns ((k : Int) - 1) m) := markTo_skip HMt.out (by rw [HHead.out, hmk])
        rw [hmk] at hcm
        clear HHead hmk
        go_wp2
        go_loopw [5] (fun jv ww => jv = .int .i64 0 ∧ ww = wr) (fun _ _ => 0)
        case atStart => exact ⟨rfl, rfl⟩
        case round =>
          obtain ⟨rfl, hww⟩ := hrel
          rw [hww]
          clear hww
          by_cases h0 : 0 < ns[k].kids.length
          · have h0' : (0 : Int) < (ns[k].kids.length : Int) := by omega
            go_wp2
            go_roundw
            case rel => exact ⟨(k : Int) - 1, m, rfl, by omega, by omega, HS.out, HOm.out, HB.out, HE.out⟩
            case measure => simp [intOf]
          · have h0' : ¬ (0 : Int) < (ns[k].kids.length : Int) := by omega
            go_wp2
            go_roundw
            case rel => exact ⟨(k : Int) - 1, m, rfl, by omega, by omega, HS.out, HOm.out, HB.out, HE.out⟩
            case measure => simp [intOf]
      | true =>
        have HIn : Hid (MarkIn ns k ns[k].kids 0 m) := ⟨HMt.out, by rw [HHead.out, hmk], fun q hq => by simp at hq⟩
        clear HHead hmk hcm hfm hkm HMt HI n3
        go_wp2
        go_loopw [5] (fun jv ww => ∃ (j : Nat) (m' : List Bool), jv = .int .i64 j ∧ j ≤ ns[k].kids.length ∧ MarkIn ns k ns[k].kids j m' ∧ OwnF w.heap.size (.slice (some ⟨w.heap.size + 1, 0, none⟩) ns.length ns.length) m' ww ∧ Below w.heap.size w ww ∧ ww.cell? ⟨w.heap.size, 0, none⟩ = some (.slice (some ⟨b, off, none⟩) ns.length cap)) (fun jv _ => ns[k].kids.length - (intOf jv).toNat)
        case atStart => exact ⟨0, m, rfl, Nat.zero_le _, HIn.out, HOm.out, HB.out, HE.out⟩
        case round =>
          obtain ⟨j, m', rfl, hj, hmi, hom', hbw', hE'⟩ := hrel
          have HMi : Hid (MarkIn ns k ns[k].kids j m') := hmi
          have HO' : Hid (OwnF w.heap.size (.slice (some ⟨w.heap.size + 1, 0, none⟩) ns.length ns.length) m' wr) := hom'
          have HB' : Hid (Below w.heap.size w wr) := hbw'
          have HE' : Hid (wr.cell? ⟨w.heap.size, 0, none⟩ = some (.slice (some ⟨b, off, none⟩) ns.length cap)) := hE'
          clear hmi hom' hbw'
          obtain ⟨b', off', kv', e, _, _, _, n3', hI'⟩ := (HR.out.below HB'.out).at hk
          cases e
          obtain ⟨ak', ck', rfl⟩ := hI'.slice
          by_cases hjl : j < ns[k].kids.length
          · have hml' : m'.length = ns.length := HMi.out.1.1
            have hkm' : k < m'.length := by omega
            have hmk' : m'[k] = true := by have := HMi.out.2.1; rw [List.getElem?_eq_getElem hkm'] at this; exact Option.some.inj this
            obtain ⟨hcm', _⟩ := HO'.out.at hkm'
            rw [hmk'] at hcm'
            obtain ⟨bk, offk, rfl, hck⟩ := hI'.at hjl
            have hkq := HKd.out _ (List.getElem_mem hjl)
            have HNx : Hid (MarkIn ns k ns[k].kids (j + 1) (m'.set ns[k].kids[j].toNat true)) := markIn_next hk HKd.out hjl HMi.out
            obtain ⟨q, hq⟩ : ∃ q : Nat, ns[k].kids[j] = (q : Int) := ⟨ns[k].kids[j].toNat, by omega⟩
            rw [hq] at hck hkq HNx
            rw [Int.toNat_natCast] at HNx
            obtain ⟨c0, hcq, hfq⟩ : ∃ c, wr.cell? ⟨w.heap.size + 1, q, none⟩ = some c ∧ wr.frozen? ⟨w.heap.size + 1, q, none⟩ = false := ⟨_, (HO'.out.at (k := q) (by omega)).1, (HO'.out.at (k := q) (by omega)).2⟩
            have HOs : Hid (OwnF w.heap.size (.slice (some ⟨w.heap.size + 1, 0, none⟩) ns.length ns.length) (m'.set q true) (wr.setCell ⟨w.heap.size + 1, q, none⟩ (.bool true))) := OwnF.set HO'.out _ _
            have HBs : Hid (Below w.heap.size w (wr.setCell ⟨w.heap.size + 1, q, none⟩ (.bool true))) := HB'.out.setCell (Nat.le_succ _) _
            have HEs : Hid ((wr.setCell ⟨w.heap.size + 1, q, none⟩ (.bool true)).cell? ⟨w.heap.size, 0, none⟩ = some (.slice (some ⟨b, off, none⟩) ns.length cap)) := far_cell HE'.out (by omega)
            have i5 : (j : Int) < (ns[k].kids.length : Int) := by omega
            have i6 : (q : Int) < (ns.length : Int) := by omega
            have i7 : (k : Int) < (ns.length : Int) := by omega
            clear hq hkq hml' hkm' hmk' hI'
            go_wp2
            go_roundw
            case rel => exact ⟨j + 1, m'.set q true, by go_num, by omega, HNx.out, HOs.out, HBs.out, HEs.out⟩
            case measure => simp [intOf]; omega
          · obtain rfl : j = ns[k].kids.length := by omega
            have HS : Hid (MarkTo ns ((k : Int) - 1) m') := markIn_end hk HMi.out
            have i5 : ¬ (ns[k].kids.length : Int) < (ns[k].kids.length : Int) := by omega
            have i7 : (k : Int) < (ns.length : Int) := by omega
            clear hI'
            go_wp2
            go_roundw
            case rel => exact ⟨(k : Int) - 1, m', rfl, by omega, by omega, HS.out, HO'.out, HB'.out, HE'.out⟩
            case measure => simp [intOf]
    · obtain rfl : i = -1 := by omega
      have HMk : Hid (Marks ns m) := markTo_end HMt.out (by omega)
      go_wp2
      go_ret
      exact ⟨_, rfl, m, HOm.out, HMk.out, HB.out⟩

end Go.Proofs.YtanmhbopalchoaaDoor
