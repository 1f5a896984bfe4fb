/- The program's FreeOf: names collected, sorted, each once. -/
import Derived.Test.YtjjdeiclfbcicaaGreatDoorXFreeI
namespace Go.Proofs.YtjjdeiclfbcicaaGreatDoor
open Go.RowKit

/-! ### sorted, each once: what the row is then -/
open Go.Sort
theorem grow_none (w : World) : grow w #[] = w := by simp [grow]
theorem compact_len (zs : List (List UInt8)) : (Lib.compact zs).length ≤ zs.length := by
  rw [Lib.compact, Lib.compactUpTo, List.length_map]
  exact Nat.le_trans (List.length_filter_le ..) (by simp)
theorem own_compact {w : World} {base g cap q : Nat} {e : TypeId} {cur : Array Value} {zs : List (List UInt8)} (hbase : base ≤ g) (hb : w.heap[g]? = some (.cells cur e (0, 0))) (h1 : zs.length ≤ cap) (h2 : cap ≤ maxLen) (h3 : cur.size = cap * 1) :
    (putRow encStr (Sort.ahead w q) g 0 (Lib.compact zs ++ List.replicate (zs.length - (Lib.compact zs).length) []).toArray).ownsRow base e 1 (.slice (some ⟨g, 0, none⟩) (Lib.compact zs).length cap) (Lib.compact zs).length ((Lib.compact zs).map encStr) := by
  have hl := compact_len zs
  have hh := heap_sorted (n := q) (os := #[]) (Lib.compact zs ++ List.replicate (zs.length - (Lib.compact zs).length) []).toArray hb
  rw [grow_none] at hh
  refine ⟨by simp, .inr ⟨g, cap, _, rfl, hbase, hh, by omega, h2, by simp [putCells, h3], ?_⟩⟩
  have ht := take_putCells cur (Lib.compact zs ++ List.replicate (zs.length - (Lib.compact zs).length) []) (by simp; omega)
  have ht2 := congrArg (List.take (Lib.compact zs).length) ht
  rw [List.take_take, List.map_append, List.take_append_of_le_length (by simp), List.take_of_length_le (by simp : (List.map encStr (Lib.compact zs)).length ≤ (Lib.compact zs).length), List.length_append, List.length_replicate, Nat.min_eq_left (by omega)] at ht2
  rw [Nat.mul_one]
  exact ht2
theorem sb_enc (ss : List ByteArray) : sb ss = (ss.map fun s => s.data.toList).map encStr := by
  rw [sb, List.map_map]
  apply List.map_congr_left
  intro s _
  simp [encStr]
theorem own_names {B : Nat} {v : Value} {ss : List ByteArray} {n : Nat} {ts : List (List UInt8)} {w : World} (h : w.ownsRow B 9 1 v n (ts.map encStr)) (hn : n = ts.length) (ht : ts = ss.map fun s => s.data.toList) : OwnB B v ss w := by
  subst hn
  subst ht
  rw [OwnB, sb_enc]
  rw [List.length_map] at h
  exact h

set_option maxHeartbeats 1600000 in
set_option maxRecDepth 100000 in
theorem implFreeOf_any (v : Value) (ns : List NodeD) (w : World) (hg : errTy w) (h : NRow w v ns) :
    Calls Tryz.prog 68 #[.agg #[v]] w fun e w' => ∃ o, e = .returned o ∧ OwnB w.heap.size o (freeB ns) w' ∧ Below w.heap.size w w' := by
  have HG : Hid (errTy w) := hg
  have HR : Hid (NRow w v ns) := h
  obtain ⟨a, cap, rfl⟩ := h.slice
  have B0 : Hid (Below w.heap.size w (w.alloc (.cells #[.slice a ns.length cap] 86))) := (Below.refl _ _).alloc (Nat.le_refl _) _
  clear h hg
  cases hx : exprB ns with
  | false =>
    have HP : Hid (∀ W, NRow W (.slice a ns.length cap) ns → _) := fun W hw => partsOf_no (.slice a ns.length cap) ns W hw hx
    have HF : Hid (freeB ns = []) := by rw [Hid, freeB, hx]; rfl
    rw [HF.out]
    clear hx
    go_enter Tryz.func68, Tryz.ntmps68
    go_wp2_with fail
    refine (HP.out _ (HR.out.below B0.out)).mono ?_
    rintro e w1 ⟨rfl, hb1⟩
    have B1 : Hid (Below w.heap.size w w1) := B0.out.trans (hb1.mono B0.out.size)
    clear hb1
    go_wp2_with fail
    refine (faultCode_is 1 _ (HG.out.below B1.out)).mono ?_
    rintro e w2 ⟨rfl, hb2⟩
    have B2 : Hid (Below w.heap.size w w2) := B1.out.trans (hb2.mono B1.out.size)
    have O2 : Hid (OwnB w.heap.size (.slice (some ⟨w2.heap.size, 0, none⟩) 0 0) [] (w2.alloc (.cells #[] 9))) := World.ownsRow_made (base := w.heap.size) w2 #[] 0 (e := 9) (size := 1) B2.out.size (by decide) rfl
    clear hb2
    go_wp2
    go_ret
    exact ⟨_, rfl, O2.out, B2.out.alloc B2.out.size _⟩
  | true =>
    have HP : Hid (∀ W, NRow W (.slice a ns.length cap) ns → _) := fun W hw => partsOf_yes (.slice a ns.length cap) ns W hw hx
    have HNm : Hid (∀ v W, PRow W v ns → _) := fun v W hw => namesOf_any v ns W hx hw
    have HF : Hid (freeB ns = freeF ns) := by rw [Hid, freeB, hx]; rfl
    have HFC : Hid (Lib.compact (((namesF ns).map fun s => s.data.toList).mergeSort leL) = (freeF ns).map fun s => s.data.toList) := free_compact ns
    have hnl : (namesF ns).length ≤ 20 := by have h1 := namesF_len ns; have h2 := (exprB_at hx).1; omega
    rw [HF.out]
    clear hx
    go_enter Tryz.func68, Tryz.ntmps68
    go_wp2_with fail
    refine (HP.out _ (HR.out.below B0.out)).mono ?_
    rintro e w1 ⟨o, rfl, ho, hb1⟩
    have B1 : Hid (Below w.heap.size w w1) := B0.out.trans (hb1.mono B0.out.size)
    have P1 : Hid (PRow w1 o ns) := ho.row
    clear hb1 ho B0 HP
    go_wp2_with fail
    refine (faultCode_nil _).mono ?_
    rintro e w2 ⟨rfl, hb2⟩
    have B2 : Hid (Below w.heap.size w w2) := B1.out.trans (hb2.mono B1.out.size)
    have P2 : Hid (PRow w2 o ns) := P1.out.below hb2
    clear hb2 B1 P1
    go_wp2_with fail
    refine (HNm.out _ _ P2.out).mono ?_
    rintro e w3 ⟨o3, rfl, ho3, hb3⟩
    have B3 : Hid (Below w.heap.size w w3) := B2.out.trans (hb3.mono B2.out.size)
    have HO3 : Hid (OwnB w2.heap.size o3 (namesF ns) w3) := ho3
    have hs2 : w.heap.size ≤ w2.heap.size := B2.out.size
    clear ho3 hb3 HNm P2
    by_cases h0 : (namesF ns).length = 0
    · have HFe : Hid (freeF ns = []) := by
        have h1 := HFC.out
        rw [List.eq_nil_of_length_eq_zero h0] at h1
        have h2 : ((freeF ns).map fun s => s.data.toList) = [] := by
          rw [← h1]
          refine List.eq_nil_of_length_eq_zero ?_
          have h3 := compact_len ((List.map (fun s : ByteArray => s.data.toList) []).mergeSort leL)
          rw [List.length_mergeSort, List.map_nil, List.length_nil] at h3
          exact Nat.le_zero.1 h3
        exact List.map_eq_nil_iff.1 h2
      obtain ⟨a3, c3, ho⟩ := HO3.out.row.slice
      rw [h0] at ho
      subst ho
      have HOF : Hid (OwnB w.heap.size (.slice a3 0 c3) (freeF ns) w3) := by
        have h1 := HO3.out
        rw [List.eq_nil_of_length_eq_zero h0] at h1
        rw [Hid, HFe.out]
        refine ⟨h1.1, ?_⟩
        rcases h1.2 with h | ⟨g, cp, cur, e, hg, r⟩
        · exact .inl h
        · exact .inr ⟨g, cp, cur, e, Nat.le_trans hs2 hg, r⟩
      clear h0 hnl
      go_wp2_with fail
      refine (Tryz.slices_Sort_string_none a3 c3 _).mono ?_
      rintro e wq ⟨rfl, hw⟩
      rw [hw]
      clear hw wq
      go_wp2_with fail
      refine (Tryz.slices_Compact_string_empty a3 c3 _).mono ?_
      rintro e wq ⟨rfl, hw⟩
      rw [hw]
      clear hw wq
      go_wp2
      go_ret
      exact ⟨_, rfl, HOF.out, B3.out⟩
    · rcases HO3.out.2 with ⟨_, hn0⟩ | ⟨g, c3, cur, ho, hgb, hblk, h1, h2, h3, h4⟩
      · exact absurd hn0 h0
      subst ho
      obtain ⟨ss, hss⟩ : ∃ ss, ((namesF ns).map fun s => s.data.toList) = ss := ⟨_, rfl⟩
      have hsl : ss.length = (namesF ns).length := by rw [← hss, List.length_map]
      rw [hss] at HFC
      have h4' : cur.toList.take ss.length = ss.map encStr := by
        rw [sb_enc, hss, Nat.mul_one] at h4
        rw [hsl]; exact h4
      rw [← hsl] at h1 hnl
      have hgl : g < w3.heap.size := (Array.getElem?_eq_some_iff.1 hblk).1
      have HS : Hid (_) := Tryz.slices_Sort_string g 0 c3 ss w3 (holds_of_block hblk h4') hgl (by omega)
      have HML : Hid ((ss.mergeSort leL).length = ss.length) := List.length_mergeSort ss
      rw [← hsl]
      clear h0 h4 hsl hss
      go_wp2_with fail
      refine Calls.mono HS.out ?_
      rintro e w4 ⟨rfl, n4, os4, hw4⟩
      have hb4 : w4.heap[g]? = some (.cells (putCells encStr 0 (ss.mergeSort leL).toArray cur) 9 (0, 0)) := by rw [hw4]; exact heap_sorted _ hblk
      have hg4 : w3.grownBy w4 (some g) := by rw [hw4]; exact grownBy_sorted _
      have B4 : Hid (Below w.heap.size w w4) := B3.out.grown hg4 B3.out.size (fun k hk => by cases hk; omega)
      have hsz4 : (putCells encStr 0 (ss.mergeSort leL).toArray cur).size = c3 * 1 := by simp [putCells, h3]
      have ht4 := take_putCells cur (ss.mergeSort leL) (by rw [HML.out]; omega)
      have HC : Hid (_) := Tryz.slices_Compact_string g 0 c3 (ss.mergeSort leL) w4 (holds_of_block hb4 ht4) (by rw [HML.out]; omega) (by rw [HML.out]; omega)
      rw [HML.out] at HC
      have HOC : Hid (∀ q, _) := fun q => own_compact (w := w4) (base := w.heap.size) (q := q) (zs := ss.mergeSort leL) (by omega) hb4 (by rw [HML.out]; omega) h2 hsz4
      clear hw4 hg4 hsz4 ht4 hb4
      go_wp2_with fail
      refine Calls.mono HC.out ?_
      rintro e w5 ⟨rfl, q, hw5⟩
      have HOF : Hid (OwnB w.heap.size (.slice (some ⟨g, 0, none⟩) (Lib.compact (ss.mergeSort leL)).length c3) (freeF ns) w5) := by
        have h1 := HOC.out q
        rw [HML.out] at h1
        rw [hw5]
        exact own_names h1 rfl HFC.out
      have B5 : Hid (Below w.heap.size w w5) := by
        have hg5 : w4.grownBy w5 (some g) := by rw [hw5, ← grow_none (putRow encStr _ _ _ _)]; exact grownBy_sorted _
        exact B4.out.grown hg5 B4.out.size (fun k hk => by cases hk; omega)
      clear hw5
      go_wp2
      go_ret
      exact ⟨_, rfl, HOF.out, B5.out⟩
end Go.Proofs.YtjjdeiclfbcicaaGreatDoor
