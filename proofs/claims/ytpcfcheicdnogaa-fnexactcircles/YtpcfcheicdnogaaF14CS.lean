/- The specification's Circles and Ambiguous. -/
import Derived.Test.YtpcfcheicdnogaaF14F
namespace Go.Proofs.Ytpcfcheicdnogaa
open Go.RowKit
set_option linter.unusedVariables false

theorem circles14_true {xs : List PartD} {i : Nat} (h : Pl xs i i) : circles14 xs = true := @decide_eq_true _ (Classical.propDecidable _) ⟨i, h⟩
theorem circles14_false {xs : List PartD} (h : ∀ i, i < xs.length → ¬ Pl xs i i) : circles14 xs = false := @decide_eq_false _ (Classical.propDecidable _) fun ⟨i, hi⟩ => h i (pl_left hi) hi
theorem amb14_true {xs : List PartD} {i : Nat} (h : AmbP xs i) : amb14 xs = true := @decide_eq_true _ (Classical.propDecidable _) ⟨i, h⟩
theorem amb14_false {xs : List PartD} (h : ∀ i, i < xs.length → ¬ AmbP xs i) : amb14 xs = false := @decide_eq_false _ (Classical.propDecidable _) fun ⟨i, hi⟩ => h i hi.2.1 hi

set_option maxHeartbeats 3200000 in
set_option maxRecDepth 100000 in
theorem specCircles14 (v : Value) (xs : List PartD) (w : World) (hn : forestTot xs ≤ 1048576) (h : RowC 5 PartE w v xs) :
    Calls Try.prog 11 #[.agg #[v]] w fun e w' => e = .returned (.bool (circles14 xs)) ∧ Below w.heap.size w w' := by
  have HN : Hid (forestTot xs ≤ 1048576) := hn
  have hnl : xs.length ≤ 1048576 := Nat.le_trans (rowTot_len partTot xs) hn
  obtain ⟨a, cap, rfl⟩ := h.slice
  have B0 : Hid (Below w.heap.size w (w.alloc (.cells #[.slice a xs.length cap] 29))) := (Below.refl _ _).alloc (Nat.le_refl _) _
  have HR : Hid (RowC 5 PartE (w.alloc (.cells #[.slice a xs.length cap] 29)) (.slice a xs.length cap) xs) := RowC.below PartE_stable h B0.out
  have hE0 : (w.alloc (.cells #[.slice a xs.length cap] 29)).cell? ⟨w.heap.size, 0, none⟩ = some (.slice a xs.length cap) := box_at _ _ _ 0 _ rfl
  clear h hn
  go_enter Try.func11, Try.ntmps11
  go_wp2
  generalize w.alloc (.cells #[.slice a xs.length cap] 29) = w0 at *
  go_loopw [3] (fun iv wr => ∃ (k : Nat), iv = .int .i64 k ∧ k ≤ xs.length ∧ (∀ i, i < k → ¬ Pl xs i i) ∧ Below w0.heap.size w0 wr) (fun iv _ => xs.length - (intOf iv).toNat)
  case atStart => exact ⟨0, rfl, Nat.zero_le _, fun i hi => absurd hi (Nat.not_lt_zero _), Below.refl _ _⟩
  case round =>
    obtain ⟨k, rfl, hk, hP, hbw⟩ := hrel
    obtain ⟨wa, rfl⟩ : ∃ W, W = wr := ⟨wr, rfl⟩
    have HP : Hid (∀ i, i < k → ¬ Pl xs i i) := hP
    have HB : Hid (Below w0.heap.size w0 wa) := hbw
    have hE := cell_keep hE0 hbw
    clear hP hbw
    by_cases hlt : k < xs.length
    · have i4 : (k : Int) < (xs.length : Int) := by omega
      have HC : Hid (∀ W, RowC 5 PartE W (.slice a xs.length cap) xs → _) := fun W h => specFrom14 _ xs k W HN.out hlt h
      go_wp2_with fail
      refine (HC.out _ (RowC.below PartE_stable HR.out HB.out)).mono ?_
      rintro e w1 ⟨r, rfl, hfr, hb1⟩
      obtain ⟨out, hob, hol, hfo⟩ := hfr
      have B1 : Hid (Below w0.heap.size w0 w1) := HB.out.trans (hb1.mono HB.out.size)
      obtain ⟨g, cp, rfl, _, _⟩ := World.ownsRow.form hob (by omega)
      obtain ⟨c1, c2⟩ := hob.at (k := k) (by omega)
      have HFo : Hid (out.getD k false = true ↔ Pl xs k k) := hfo k
      have i5 : (k : Int) < (out.length : Int) := by omega
      clear hob hfo hb1
      cases hb : out.getD k false with
      | true =>
        have HV : Hid (circles14 xs = true) := circles14_true (HFo.out.1 hb)
        have HBf : Hid (Below w.heap.size w w1) := B0.out.trans (B1.out.mono B0.out.size)
        rw [hb] at c1
        clear hb HFo
        go_wp2
        go_ret
        rw [HV.out]
        exact ⟨rfl, HBf.out⟩
      | false =>
        have HPn : Hid (∀ i, i < k + 1 → ¬ Pl xs i i) := fun i hi => by
          by_cases e : i = k
          · subst e
            intro hp
            rw [HFo.out.2 hp] at hb
            cases hb
          · exact HP.out i (by omega)
        rw [hb] at c1
        clear hb HFo
        go_wp2
        go_roundw
        case rel => exact ⟨k + 1, by go_num, by omega, HPn.out, B1.out⟩
        case measure => simp [intOf]; omega
    · obtain rfl : k = xs.length := by omega
      have HV : Hid (circles14 xs = false) := circles14_false HP.out
      have HBf : Hid (Below w.heap.size w wa) := B0.out.trans (HB.out.mono B0.out.size)
      have i4 : ¬ (xs.length : Int) < (xs.length : Int) := by omega
      go_wp2
      go_ret
      rw [HV.out]
      exact ⟨rfl, HBf.out⟩

set_option maxHeartbeats 3200000 in
set_option maxRecDepth 100000 in
theorem specAmb14 (v : Value) (xs : List PartD) (w : World) (hn : forestTot xs ≤ 1048576) (h : RowC 5 PartE w v xs) :
    Calls Try.prog 13 #[.agg #[v]] w fun e w' => e = .returned (.bool (amb14 xs)) ∧ Below w.heap.size w w' := by
  have HN : Hid (forestTot xs ≤ 1048576) := hn
  have HLn : Hid (∀ i (hi : i < xs.length), _) := fun i hi => ways_len hn i hi
  have hnl : xs.length ≤ 1048576 := Nat.le_trans (rowTot_len partTot xs) hn
  obtain ⟨a, cap, rfl⟩ := h.slice
  have B0 : Hid (Below w.heap.size w (w.alloc (.cells #[.slice a xs.length cap] 29))) := (Below.refl _ _).alloc (Nat.le_refl _) _
  have HR : Hid (RowC 5 PartE (w.alloc (.cells #[.slice a xs.length cap] 29)) (.slice a xs.length cap) xs) := RowC.below PartE_stable h B0.out
  have hE0 : (w.alloc (.cells #[.slice a xs.length cap] 29)).cell? ⟨w.heap.size, 0, none⟩ = some (.slice a xs.length cap) := box_at _ _ _ 0 _ rfl
  clear h hn
  by_cases hz : xs.length = 0
  · have HV : Hid (amb14 xs = false) := amb14_false fun i hi => by omega
    have b0 : ((xs.length : Int) == 0) = true := by simp [hz]
    clear hz
    go_enter Try.func13, Try.ntmps13
    go_wp2
    go_ret
    rw [HV.out]
    exact ⟨rfl, B0.out⟩
  · have b0 : ((xs.length : Int) == 0) = false := by rw [beq_eq_false_iff_ne]; omega
    have hpos : 0 < xs.length := by omega
    have HC : Hid (∀ W, RowC 5 PartE W (.slice a xs.length cap) xs → _) := fun W h => specFrom14 _ xs 0 W HN.out hpos h
    go_enter Try.func13, Try.ntmps13
    go_wp2_with fail
    generalize w.alloc (.cells #[.slice a xs.length cap] 29) = w0 at *
    go_wp2_with fail
    refine (HC.out _ HR.out).mono ?_
    rintro e w1 ⟨r, rfl, hfr, hb1⟩
    obtain ⟨out, hob, hol, hfo⟩ := hfr
    obtain ⟨g, cp, rfl, _, _⟩ := World.ownsRow.form hob (by omega)
    have HFo : Hid (∀ j, out.getD j false = true ↔ Pl xs 0 j) := hfo
    have HOb : Hid (OwnB14 w0.heap.size (.slice (some ⟨g, 0, none⟩) out.length cp) out w1) := hob
    have B1 : Hid (Below w0.heap.size w0 w1) := hb1
    have hE1 := cell_keep hE0 hb1
    have HOl : Hid (out.length = xs.length) := hol
    have HC1 : Hid (∀ j, j < xs.length → w1.cell? ⟨g, j, none⟩ = some (.bool (out.getD j false))) := fun j hj => (hob.at (by omega)).1
    rw [show out.length = xs.length from hol]
    clear hob hol hfo hb1 HC
    go_wp2
    go_loopw [4] (fun iv wr => ∃ (k : Nat), iv = .int .i64 k ∧ k ≤ xs.length ∧ (∀ i, i < k → ¬ AmbP xs i) ∧ wr = w1) (fun iv _ => xs.length - (intOf iv).toNat)
    case atStart => exact ⟨0, rfl, Nat.zero_le _, fun i hi => absurd hi (Nat.not_lt_zero _), rfl⟩
    case round =>
      obtain ⟨k, rfl, hk, hP, hw⟩ := hrel
      rw [hw]
      clear hw
      have HP : Hid (∀ i, i < k → ¬ AmbP xs i) := hP
      clear hP
      by_cases hlt : k < xs.length
      · have i4 : (k : Int) < (xs.length : Int) := by omega
        obtain ⟨b, off, vs, rfl, _, hc, hEl⟩ := (RowC.below PartE_stable HR.out B1.out).at hlt
        obtain ⟨r0, r1, rfl, hA, hI⟩ := hEl
        have n4 : w1.cell? ⟨b, off + k * 5 + 4, none⟩ = some r1 := hc 4 (by simp)
        have hkl := (HLn.out k hlt).1
        obtain ⟨aw, cw, rfl⟩ := hI.slice
        have c1 := HC1.out k hlt
        have HFk : Hid (out.getD k false = true ↔ Pl xs 0 k) := HFo.out k
        have HAm : Hid (AmbP xs k ↔ (k = 0 ∨ Pl xs 0 k) ∧ 1 < xs[k].ways.length) := ⟨fun h => ⟨h.1, by obtain ⟨_, h2⟩ := h.2; exact h2⟩, fun h => ⟨h.1, hlt, h.2⟩⟩
        clear hI hc hA
        have fin : ∀ bq : Bool, AmbP xs k → amb14 xs = true := fun _ h => amb14_true h
        generalize xs[k].ways.length = m at *
        by_cases hA : AmbP xs k
        · have HV : Hid (amb14 xs = true) := amb14_true hA
          have HBf : Hid (Below w.heap.size w w1) := B0.out.trans (B1.out.mono B0.out.size)
          obtain ⟨hA1, hA2⟩ := HAm.out.1 hA
          have i5 : (1 : Int) < (m : Int) := by omega
          clear hA fin HAm
          by_cases hk0 : k = 0
          · subst hk0
            clear HFk hA1
            go_wp2
            go_ret
            rw [HV.out]
            exact ⟨rfl, HBf.out⟩
          · have b1 : ((k : Int) == 0) = false := by rw [beq_eq_false_iff_ne]; omega
            have hb := HFk.out.2 (hA1.resolve_left hk0)
            rw [hb] at c1
            clear HFk hA1 hb hk0
            go_wp2
            go_ret
            rw [HV.out]
            exact ⟨rfl, HBf.out⟩
        · have HPn : Hid (∀ i, i < k + 1 → ¬ AmbP xs i) := fun i hi => by
            by_cases e : i = k
            · rw [e]; exact hA
            · exact HP.out i (by omega)
          have HN2 : Hid ((k = 0 ∨ Pl xs 0 k) → ¬ (1 : Int) < (m : Int)) := fun h1 h2 => hA (HAm.out.2 ⟨h1, by omega⟩)
          clear hA fin HAm
          by_cases hk0 : k = 0
          · have i5 := HN2.out (.inl hk0)
            subst hk0
            clear HFk HN2
            go_wp2
            go_roundw
            case rel => exact ⟨0 + 1, by go_num, by omega, HPn.out, by first | trivial | rfl⟩
            case measure => simp [intOf]; omega
          · have b1 : ((k : Int) == 0) = false := by rw [beq_eq_false_iff_ne]; omega
            cases hb : out.getD k false with
            | true =>
              have i5 := HN2.out (.inr (HFk.out.1 hb))
              rw [hb] at c1
              clear HFk HN2 hb hk0
              go_wp2
              go_roundw
              case rel => exact ⟨k + 1, by go_num, by omega, HPn.out, by first | trivial | rfl⟩
              case measure => simp [intOf]; omega
            | false =>
              rw [hb] at c1
              clear HFk HN2 hb hk0
              go_wp2
              go_roundw
              case rel => exact ⟨k + 1, by go_num, by omega, HPn.out, by first | trivial | rfl⟩
              case measure => simp [intOf]; omega
      · obtain rfl : k = xs.length := by omega
        have HV : Hid (amb14 xs = false) := amb14_false HP.out
        have HBf : Hid (Below w.heap.size w w1) := B0.out.trans (B1.out.mono B0.out.size)
        have i4 : ¬ (xs.length : Int) < (xs.length : Int) := by omega
        go_wp2
        go_ret
        rw [HV.out]
        exact ⟨rfl, HBf.out⟩

end Go.Proofs.Ytpcfcheicdnogaa
