/- The program's clonedVar, clonedVars and numsOf. -/
import Derived.Test.YtneobgikailhjaaEnvImpl
import Derived.Test.YtneobgikailhjaaShelf
import Derived.Maps.OwnOps
namespace Go.Proofs.Ytneobgikailhjaa
open Go.RowKit Go.Maps

theorem clone_any (s : ByteArray) (w : World) (h : s.size ≤ 1048576) :
    Calls Try.prog 50 #[.string s] w fun e w' => e = .returned (.string s) ∧ Below w.heap.size w w' := by
  have HC : Hid (∀ W, _) := fun W => Try.stringslite_Clone s W (by omega)
  go_enter Try.func50, Try.ntmps50
  go_wp2_with fail
  refine (HC.out _).mono ?_
  rintro e w1 ⟨rfl, hb⟩
  go_wp2
  go_ret
  exact ⟨rfl, hb⟩

theorem frozen_keep {w w' : World} {b o : Nat} (h : w.frozen? ⟨b, o, none⟩ = false) (hlt : b < w.heap.size) (hb : Below w.heap.size w w') : w'.frozen? ⟨b, o, none⟩ = false := by
  unfold World.frozen? at h ⊢
  rw [hb.block b hlt]
  exact h
theorem cv_keep {w w' : World} {B : Nat} {s n z y : Value} (h : w.cell? ⟨B, 0, none⟩ = some s ∧ w.cell? ⟨B, 1, none⟩ = some n ∧ w.cell? ⟨B + 1, 0, none⟩ = some z ∧ w.frozen? ⟨B + 1, 0, none⟩ = false ∧ w.cell? ⟨B + 1, 1, none⟩ = some y ∧ w.frozen? ⟨B + 1, 1, none⟩ = false) (hb : Below w.heap.size w w') :
    w'.cell? ⟨B, 0, none⟩ = some s ∧ w'.cell? ⟨B, 1, none⟩ = some n ∧ w'.cell? ⟨B + 1, 0, none⟩ = some z ∧ w'.frozen? ⟨B + 1, 0, none⟩ = false ∧ w'.cell? ⟨B + 1, 1, none⟩ = some y ∧ w'.frozen? ⟨B + 1, 1, none⟩ = false := by
  obtain ⟨h1, h2, h3, h4, h5, h6⟩ := h
  have hlt : B + 1 < w.heap.size := World.block_lt_of_cell? w _ h3
  exact ⟨cell_keep h1 hb, cell_keep h2 hb, cell_keep h3 hb, frozen_keep h4 hlt hb, cell_keep h5 hb, frozen_keep h6 hlt hb⟩

theorem set_two {w : World} {b : Nat} {x y : Value} (h1 : w.cell? ⟨b, 0, none⟩ = some x) (h2 : w.cell? ⟨b, 1, none⟩ = some y) (u v : Value) :
    ((w.setCell ⟨b, 0, none⟩ u).setCell ⟨b, 1, none⟩ v).cell? ⟨b, 0, none⟩ = some u ∧ ((w.setCell ⟨b, 0, none⟩ u).setCell ⟨b, 1, none⟩ v).cell? ⟨b, 1, none⟩ = some v :=
  ⟨(World.cell?_setCell_other _ _ _ _ (by simp)).trans (World.cell?_setCell_same _ _ _ h1), World.cell?_setCell_same _ _ _ ((World.cell?_setCell_other _ _ _ _ (by simp)).trans h2)⟩

/-- The two blocks that it lays. -/
def cvW (w : World) (s : ByteArray) (n : Int) : World := (w.alloc (.cells #[.string s, .int .i64 n] 34)).alloc (.cells #[.string ⟨#[]⟩, .int .i64 0] 34)
theorem cvW_at (w : World) (s : ByteArray) (n : Int) {B : Nat} (hB : w.heap.size = B) : (cvW w s n).cell? ⟨B, 0, none⟩ = some (.string s) ∧ (cvW w s n).cell? ⟨B, 1, none⟩ = some (.int .i64 n) ∧ (cvW w s n).cell? ⟨B + 1, 0, none⟩ = some (.string ⟨#[]⟩) ∧ (cvW w s n).frozen? ⟨B + 1, 0, none⟩ = false
    ∧ (cvW w s n).cell? ⟨B + 1, 1, none⟩ = some (.int .i64 0) ∧ (cvW w s n).frozen? ⟨B + 1, 1, none⟩ = false := by
  subst hB
  have h1 : (cvW w s n).heap[w.heap.size]? = some (.cells #[.string s, .int .i64 n] 34) := (Below.heap_alloc _ _ _ (by simp)).trans (heap_alloc_new w _)
  have h2 : (cvW w s n).heap[w.heap.size + 1]? = some (.cells #[.string ⟨#[]⟩, .int .i64 0] 34) := by
    have := heap_alloc_new (w.alloc (.cells #[.string s, .int .i64 n] 34)) (.cells #[.string ⟨#[]⟩, .int .i64 0] 34)
    rwa [show (w.alloc (.cells #[.string s, .int .i64 n] 34)).heap.size = w.heap.size + 1 by simp] at this
  generalize cvW w s n = W at *
  refine ⟨?_, ?_, ?_, ?_, ?_, ?_⟩ <;> simp [World.cell?, World.frozen?, h1, h2]

set_option maxHeartbeats 800000 in
theorem clonedVar_any (s : ByteArray) (n : Int) (w : World) (h : s.size ≤ 1048576) :
    Calls Try.prog 43 #[.agg #[.string s, .int .i64 n]] w fun e w' => e = .returned (.agg #[.string s, .int .i64 n]) ∧ Below w.heap.size w w' := by
  have HC : Hid (∀ W, _) := fun W => clone_any s W h
  clear h
  obtain ⟨B, hB⟩ : ∃ B, w.heap.size = B := ⟨_, rfl⟩
  have HB0 : Hid (Below w.heap.size w (cvW w s n)) := ((Below.refl _ _).alloc (Nat.le_refl _) _).alloc (by simp) _
  have HS0 : Hid (_) := cvW_at w s n hB
  go_enter Try.func43, Try.ntmps43
  go_wp2
  rw [show (w.alloc (.cells #[.string s, .int .i64 n] 34)).alloc (.cells #[.string ⟨#[]⟩, .int .i64 0] 34) = cvW w s n from rfl]
  generalize cvW w s n = W0 at *
  have hb0 := HB0.out
  obtain ⟨g1, g2, g3, g4, g5, g6⟩ := HS0.out
  go_region_with (first | (go_at_call 50; refine (HC.out _).mono ?_; rintro e w2 ⟨rfl, hb2⟩; obtain ⟨k1, k2, k3, k4, k5, k6⟩ := cv_keep (w := W0.drew) ⟨g1, g2, g3, g4, g5, g6⟩ hb2))
  all_goals
    have HF : Hid (Below w.heap.size w ((w2.setCell ⟨B + 1, 0, none⟩ (.string s)).setCell ⟨B + 1, 1, none⟩ (.int .i64 n))) := by
      have h1 : Below w.heap.size w w2 := HB0.out.trans ((bel_of_drew hb2).mono HB0.out.size)
      exact (h1.setCell (by rw [hB]; exact Nat.le_succ B) _).setCell (by rw [hB]; exact Nat.le_succ B) _
    obtain ⟨f1, f2⟩ := set_two k3 k5 (.string s) (.int .i64 n)
    clear hb2 hb0 g1 g2 g3 g4 g5 g6 k1 k2 k3 k4 k5 k6 HS0
    generalize (w2.setCell ⟨B + 1, 0, none⟩ (.string s)).setCell ⟨B + 1, 1, none⟩ (.int .i64 n) = W5 at *
    go_wp2
    (try simp only [Exit.inBlock, Exit.then])
    refine bodyPost_ret (by simp [results, Try.results43, go_sem, f1, f2]; try rfl) rfl ?_
    exact ⟨rfl, HF.out⟩

theorem OwnV.alloc {B : Nat} {v : Value} {xs : List VarD} {w : World} (h : OwnV B v xs w) (o : Obj) : OwnV B v xs (w.alloc o) := World.ownsRow.alloc h o

theorem OwnV.base {B B' : Nat} {v : Value} {xs : List VarD} {w : World} (h : OwnV B v xs w) (hB : B' ≤ B) : OwnV B' v xs w := by
  refine ⟨h.1, ?_⟩
  rcases h.2 with h | ⟨g, cap, cur, e, hg, r⟩
  · exact .inl h
  · exact .inr ⟨g, cap, cur, e, Nat.le_trans hB hg, r⟩

set_option maxHeartbeats 1600000 in
theorem clonedVars_any (v : Value) (xs : List VarD) (w : World) (hn : xs.length ≤ 1048576) (hz : ∀ x ∈ xs, x.1.size ≤ 1048576) (h : VRow w v xs) :
    Calls Try.prog 35 #[v] w fun e w' => ∃ o, e = .returned o ∧ OwnV w.heap.size o xs w' ∧ Below w.heap.size w w' := by
  obtain ⟨i0, hi, hz0, hz1, hz2⟩ := info_parts Try.infoVar
  have HR : Hid (VRow w v xs) := h
  have HZ : Hid (∀ x ∈ xs, x.1.size ≤ 1048576) := hz
  obtain ⟨a, cap, rfl⟩ := h.slice
  clear h hz
  go_enter Try.func35, Try.ntmps35
  go_wp2_with (at_make; refine wpList_make_own _ rfl _ _ 24 rfl w.heap.size 34 i0 _ 2 Try.underlying24 hi hz0 hz1 .i64 .i64 _ xs.length rfl rfl rfl (by rw [hz2]; omega) (by unfold maxLen; omega) (Nat.le_refl _) ?_; intro w1 hown hg1)
  have HO0 : Hid (OwnV w.heap.size (.slice (some ⟨w.heap.size, 0, none⟩) 0 xs.length) [] w1) := hown
  have HB1 : Hid (Below w.heap.size w w1) := (Below.refl _ _).grown hg1 (Nat.le_refl _) (fun k h => by cases h)
  clear hown hg1
  go_wp2
  go_loopw [3, 11] (fun ov iv wr => ∃ k : Nat, iv = .int .i64 k ∧ k ≤ xs.length ∧ OwnV w.heap.size ov (xs.take k) wr ∧ Below w.heap.size w wr) (fun _ iv _ => xs.length - (intOf iv).toNat)
  case atStart => exact ⟨0, rfl, Nat.zero_le _, HO0.out, HB1.out⟩
  case round =>
    obtain ⟨k, rfl, hk, hown, hb⟩ := hrel
    have HO : Hid (OwnV w.heap.size u3 (xs.take k) wr) := hown
    have HB : Hid (Below w.heap.size w wr) := hb
    have HRr : Hid (VRow wr (.slice a xs.length cap) xs) := HR.out.below hb
    clear hb hown
    by_cases hlt : k < xs.length
    · obtain ⟨b, off, rfl, hc1, hc2⟩ := HRr.out.at hlt
      have HC : Hid (∀ W, _) := fun W => clonedVar_any xs[k].1 xs[k].2 W (HZ.out _ (List.getElem_mem hlt))
      have htl : (xs.take k).length ≤ k := by rw [List.length_take]; omega
      have HF2 : Hid (xs.take (k + 1) = xs.take k ++ [xs[k]]) := List.take_succ_eq_append_getElem hlt
      generalize xs.take k = ys at *
      go_wp2_with fail
      refine (HC.out _).mono ?_
      rintro e w2 ⟨rfl, hb2⟩
      have HB2 : Hid (Below w.heap.size w w2) := (HB.out.alloc HB.out.size _).trans (hb2.mono (by have := HB.out.size; simp; omega))
      have HO2 : Hid (OwnV w.heap.size u3 ys w2) := (OwnV.alloc HO.out _).below hb2
      clear hb2 HO
      go_wp2_with (at_builtin; refine wpList_append_own _ rfl _ _ 24 rfl w.heap.size 34 i0 _ 2 24 Try.underlying24 hi hz0 hz1 hz2 rfl (by decide) _ _ _ rfl (World.ownsRow.alloc HO2.out _) ⟨w2.heap.size, 0, none⟩ 1 1 [.string xs[k].1, .int .i64 xs[k].2] rfl rfl (two_at _ _ _ _) (two_cell _ _) (by unfold maxLen; omega) (by omega) (by have h8 := HB2.out.size; simp; omega) ?_)
      intro v' w3 hown3 hgrow _
      have R := ownV_snoc hown3 HO2.out hgrow rfl HB2.out
      clear hown3 hgrow
      go_wp2
      go_roundw
      case rel => exact ⟨k + 1, by go_num, by omega, by rw [HF2.out]; exact R.1, R.2⟩
      case measure => simp [intOf]; omega
    · obtain rfl : k = xs.length := by omega
      rw [List.take_of_length_le (Nat.le_refl _)] at HO
      go_wp2
      go_ret
      exact ⟨_, rfl, HO.out, HB.out⟩

theorem run_makeMap_hint {P : Program} {t k e : TypeId} {q : IntKind} {n : Int} {w : World} (hu : P.underlying t = some (.map k e)) : (Instr.makeMap t (some (.int q n))).run P w = .ok (.map (some w.heap.size)) (w.alloc (.map #[] 0)) := by
  simp [Instr.makeMap, run_underlying hu, asInt, asIntOf, Result.andThen]

theorem Try.law : Keyed Try.prog 9 := string_keyed Try.underlying9
theorem Try.zeroInt (w : World) : (zeroValue 3).run Try.prog w = .ok (.int .i64 0) w := by kernel_rfl
/-- A map of the program's: names with numbers. -/
abbrev OwnM (b n : Nat) (D : DataW Unit) (w : World) : Prop := w.ownsMap Try.prog 9 (plainElem (H := Unit) Try.prog 3) b n D
theorem OwnM.below {b n : Nat} {D : DataW Unit} {w w' : World} (h : OwnM b n D w) (hb : Below w.heap.size w w') : OwnM b n D w' := by
  have hlt := World.ownsMap.lt h
  obtain ⟨es, clock, hb', F, hs, hD⟩ := h
  exact ⟨es, clock, (hb.block b hlt).trans hb', F, hs, hD⟩

set_option maxHeartbeats 1600000 in
theorem numsOf_any (v : Value) (xs : List VarD) (w : World) (hn : xs.length ≤ 1048576) (hz : ∀ x ∈ xs, x.1.size ≤ 1048576 ∧ -9223372036854775808 ≤ x.2 ∧ x.2 ≤ 9223372036854775807) (ha : Asc xs) (h : VRow w v xs) :
    Calls Try.prog 36 #[v] w fun e w' => ∃ D, e = .returned (.map (some w.heap.size)) ∧ OwnM w.heap.size xs.length D w' ∧ MapIs D xs ∧ Below w.heap.size w w' := by
  have HR : Hid (VRow w v xs) := h
  have HZ : Hid (∀ x ∈ xs, x.1.size ≤ 1048576 ∧ -9223372036854775808 ≤ x.2 ∧ x.2 ≤ 9223372036854775807) := hz
  have HA : Hid (Asc xs) := ha
  obtain ⟨a, cap, rfl⟩ := h.slice
  clear h hz ha
  have hmm := fun n W => run_makeMap_hint (P := Try.prog) (q := .i64) (n := n) (w := W) Try.underlying57
  go_enter Try.func36, Try.ntmps36
  go_wp2
  go_loopw [12] (fun iv wr => ∃ (k : Nat) (D : DataW Unit), iv = .int .i64 k ∧ k ≤ xs.length ∧ OwnM w.heap.size k D wr ∧ MapIs D (xs.take k) ∧ Below w.heap.size w wr) (fun iv _ => xs.length - (intOf iv).toNat)
  case atStart => exact ⟨0, _, rfl, Nat.zero_le _, World.ownsMap_made _ _ _ _, mapIs_nil, (Below.refl _ _).alloc (Nat.le_refl _) _⟩
  case round =>
    obtain ⟨k, D, rfl, hk, hown, hD, hb⟩ := hrel
    have HO : Hid (OwnM w.heap.size k D wr) := hown
    have HD : Hid (MapIs D (xs.take k)) := hD
    have HB : Hid (Below w.heap.size w wr) := hb
    have HRr : Hid (VRow wr (.slice a xs.length cap) xs) := HR.out.below hb
    clear hb hown hD hmm
    by_cases hlt : k < xs.length
    · obtain ⟨b, off, rfl, hc1, hc2⟩ := HRr.out.at hlt
      have HN : Hid (_) := mapIs_next HA.out hlt HD.out
      have hx := HZ.out _ (List.getElem_mem hlt)
      have hkey : keyOf Try.prog 9 (.string xs[k].1) = some (.string xs[k].1.data.toList) := Go.WideMaps.keyOf_string_mk Try.underlying9 (by unfold maxLen; omega)
      have hwf : (Lit.int .i64 xs[k].2).wf = true := WalkArith.wf_i64 (by omega)
      have HKey : Hid (_) := hkey
      have HWf : Hid (_) := hwf
      clear hx hkey hwf
      go_wp2_with (at_mapUpdate; refine wpList_mapUpdate_own _ rfl _ _ _ 57 rfl 9 3 Try.law Try.underlying57 _ w.heap.size k D rfl (World.ownsMap.alloc HO.out _) (by unfold maxLen; omega) _ _ _ rfl rfl HKey.out _ [] (plainElem_int Try.underlying3 HWf.out) ?_)
      intro w1 hown1 hgrow1
      have R1 : Hid (OwnM w.heap.size (k + 1) (D.put (.string xs[k].1.data.toList) (.lit (.int .i64 xs[k].2))) w1) := hown1
      have R2 : Hid (Below w.heap.size w w1) := (HB.out.alloc HB.out.size _).grown hgrow1 (by have := HB.out.size; simp; omega) (fun j hj => by cases hj; exact Nat.le_refl _)
      clear hown1 hgrow1
      go_wp2
      go_roundw
      case rel => exact ⟨k + 1, _, by go_num, by omega, R1.out, HN.out, R2.out⟩
      case measure => simp [intOf]; omega
    · obtain rfl : k = xs.length := by omega
      rw [List.take_of_length_le (Nat.le_refl _)] at HD
      go_wp2
      go_ret
      exact ⟨D, rfl, HO.out, HD.out, HB.out⟩

end Go.Proofs.Ytneobgikailhjaa
