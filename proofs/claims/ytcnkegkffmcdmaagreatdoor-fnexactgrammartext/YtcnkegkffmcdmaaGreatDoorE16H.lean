/- The exact law on GrammarText, walked out of the program's contract. -/
/- How great the parts of a right grammar are (pure). -/
import Derived.Test.YtcnkegkffmcdmaaGreatDoorE16GS
import Derived.Test.YtcnkegkffmcdmaaGreatDoorGSz
import Derived.Test.YtcnkegkffmcdmaaGreatDoorGEq
import Derived.Test.YtcnkegkffmcdmaaGreatDoorGGram
import Derived.Test.YtcnkegkffmcdmaaGreatDoorE16G
namespace Go.Proofs.YtcnkegkffmcdmaaGreatDoor
open Go.RowKit
set_option linter.unusedVariables false

set_option maxHeartbeats 1600000 in
set_option maxRecDepth 100000 in
theorem fnExactGrammarText_of (v : Value) (xs : List RuleD) (w : World) (hI : ∀ (v : Value) (W : World), Below w.heap.size w W → grammarTot xs ≤ 1048576 → GrammarIn xs → RowC 3 RuleE W v xs → Calls Tryz.prog 7 #[.agg #[v]] W fun e w' => e = .returned (.tuple #[.string (str (gramT xs)), .bool (gramO xs)]) ∧ Below W.heap.size W w') (h : RowC 3 RuleE w v xs) (hin : GrammarIn xs) :
    Calls Tryz.prog 3 #[.agg #[v]] w fun e w' => e = .returned (.bool true) ∧ Below w.heap.size w w' := by
  have HA : Hid (RowC 3 RuleE w v xs) := h
  have HIn : Hid (GrammarIn xs) := hin
  have HI : Hid (∀ (v : Value) (W : World), Below w.heap.size w W → grammarTot xs ≤ 1048576 → GrammarIn xs → RowC 3 RuleE W v xs → Calls Tryz.prog 7 #[.agg #[v]] W fun e w' => e = .returned (.tuple #[.string (str (gramT xs)), .bool (gramO xs)]) ∧ Below W.heap.size W w') := hI
  obtain ⟨a, cap, rfl⟩ := h.slice
  clear h hI hin
  have B0 : Hid (Below w.heap.size w (w.alloc (.cells #[.slice a xs.length cap] 24))) := (Below.refl _ _).alloc (Nat.le_refl _) _
  have E0 : Hid ((w.alloc (.cells #[.slice a xs.length cap] 24)).cell? ⟨w.heap.size, 0, none⟩ = some (.slice a xs.length cap)) := box_at _ _ _ 0 _ rfl
  have ST : Hid (∀ W, Below w.heap.size w W → RowC 3 RuleE W (.slice a xs.length cap) xs) := fun W hb => RowC.below RuleE_stable HA.out hb
  go_enter Tryz.func3, Tryz.ntmps3
  go_wp2_with fail
  refine (gszGrammar _ xs 1048576 _ (by omega) (by omega) HIn.out (ST.out _ B0.out)).mono ?_
  rintro e w1 ⟨r, rfl, hr, hb1⟩
  have B1 : Hid (Below w.heap.size w w1) := B0.out.trans (hb1.mono B0.out.size)
  have hE1 := cell_keep E0.out hb1
  clear hb1 E0 B0
  rcases hr with rfl | hr
  · go_wp2
    go_ret
    exact ⟨rfl, B1.out⟩
  · have hz : grammarTot xs ≤ 1048576 := by omega
    have hxl : xs.length ≤ 1048576 := Nat.le_trans (rowTot_len ruleTot xs) hz
    have hr2 : ¬ r < 0 := by omega
    have HZ : Hid (grammarTot xs ≤ 1048576) := hz
    clear hr hz
    go_wp2_with fail
    refine (gtoGrammar _ xs _ HZ.out (ST.out _ B1.out)).mono ?_
    rintro e w2 ⟨o2, c2, rfl, f2, hb2⟩
    have O2 : Hid (RowC 3 RuleE w2 (.slice o2 xs.length c2) xs) := f2.here
    have B2 : Hid (Below w.heap.size w w2) := B1.out.trans (hb2.mono B1.out.size)
    have hE2 := cell_keep hE1 hb2
    clear hb2 f2 hE1
    go_wp2_with fail
    refine (specGrammarText_any _ xs _ HZ.out HIn.out O2.out).mono ?_
    rintro e w3 ⟨rfl, hb3⟩
    have B3 : Hid (Below w.heap.size w w3) := B2.out.trans (hb3.mono B2.out.size)
    have hE3 := cell_keep hE2 hb3
    clear hb3 hE2
    generalize HSt : str (gramT xs) = st at *
    generalize HBb : gramO xs = bb at *
    have HI2 : Hid (∀ (v : Value) (W : World), Below w.heap.size w W → grammarTot xs ≤ 1048576 → GrammarIn xs → RowC 3 RuleE W v xs → Calls Tryz.prog 7 #[.agg #[v]] W fun e w' => e = .returned (.tuple #[.string st, .bool bb]) ∧ Below W.heap.size W w') := HI.out
    clear HI HSt HBb
    go_wp2_with fail
    refine (gtoGrammar _ xs _ HZ.out (ST.out _ B3.out)).mono ?_
    rintro e w4 ⟨a4, c4, rfl, f4, hb4⟩
    have bal := (Below.refl w4.heap.size w4).alloc (Nat.le_refl _) (.cells #[.slice a4 xs.length c4] 30)
    have O5 : Hid (RowC 3 RuleE (w4.alloc (.cells #[.slice a4 xs.length c4] 30)) (.slice a4 xs.length c4) xs) := RowC.below RuleE_stable f4.here bal
    have B4 : Hid (Below w.heap.size w w4) := B3.out.trans (hb4.mono B3.out.size)
    have B5 : Hid (Below w.heap.size w (w4.alloc (.cells #[.slice a4 xs.length c4] 30))) := B4.out.trans (bal.mono B4.out.size)
    have hE5 := cell_keep (cell_keep hE3 hb4) bal
    have hX5 : (w4.alloc (.cells #[.slice a4 xs.length c4] 30)).cell? ⟨w4.heap.size, 0, none⟩ = some (.slice a4 xs.length c4) := box_at _ _ _ 0 _ rfl
    clear hb4 f4 bal hE3
    go_wp2_with fail
    generalize w4.alloc (.cells #[.slice a4 xs.length c4] 30) = W5 at *
    generalize w4.heap.size = H4 at *
    refine (HI2.out _ _ B5.out HZ.out HIn.out O5.out).mono ?_
    rintro e w6 ⟨rfl, hb6⟩
    have B6 : Hid (Below w.heap.size w w6) := B5.out.trans (hb6.mono B5.out.size)
    have O6 : Hid (RowC 3 RuleE w6 (.slice a4 xs.length c4) xs) := RowC.below RuleE_stable O5.out hb6
    have hE6 := cell_keep hE5 hb6
    have hX6 := cell_keep hX5 hb6
    clear hb6 hE5 hX5 O5 B5
    have hbb : (bb != bb) = false := by cases bb <;> rfl
    have HT : Hid (∀ W, Below w.heap.size w W → _) := fun W hb => gtoGrammar _ xs W HZ.out (ST.out W hb)
    have HQ : Hid (∀ u v W, RowC 3 RuleE W u xs → RowC 3 RuleE W v xs → _) := fun u v W h h' => geqGrammar u v xs W HZ.out h h'
    have B7 : Hid (Below w.heap.size w w6.drew) := bel_drewN B6.out 1
    have O7 : Hid (RowC 3 RuleE w6.drew (.slice a4 xs.length c4) xs) := RowC.below RuleE_stable O6.out (bel_drewN (Below.refl _ _) 1)
    go_wp2
    go_region_held3 (fun W => W.cell? ⟨w.heap.size, 0, none⟩ = some (.slice a xs.length cap) ∧ W.cell? ⟨H4, 0, none⟩ = some (.slice a4 xs.length c4))
      ((first | exact gkeep2 (by assumption) hb8 | exact gkeep2 (by assumption) hb7 | go_keep))
      ((first
        | (go_at_call 8; refine (HQ.out _ _ _ (RowC.below RuleE_stable O7.out hb7) f7.here).mono ?_; rintro e w8 ⟨rfl, hb8⟩)
        | (go_at_call 6; refine (HT.out _ B7.out).mono ?_; rintro e w7 ⟨o7, c7, rfl, f7, hb7⟩)))
    have B8 : Hid (Below w.heap.size w w8) := by
      have h7 := B7.out.trans (hb7.mono B7.out.size)
      exact h7.trans (hb8.mono h7.size)
    clear hb7 hb8 f7
    go_wp2
    go_ret
    exact ⟨rfl, B8.out⟩

end Go.Proofs.YtcnkegkffmcdmaaGreatDoor

namespace Go.Proofs.YtcnkegkffmcdmaaGreatDoor
open Go.RowKit
set_option linter.unusedVariables false

/-- A sym that may be written. -/
structure SymZ (s : SymD) : Prop where
  k : SymK s
  text : s.text.size ≤ 100
  bind : s.bind.size ≤ 100
def AltZ (a : List SymD) : Prop := ∀ s ∈ a, SymZ s
structure RuleZ (r : RuleD) : Prop where
  name : r.name.size ≤ 100
  params : ∀ p ∈ r.params, p.size ≤ 100
  alts : ∀ a ∈ r.alts, AltZ a
theorem atF_at (nm : ByteArray) : ∀ (i : Nat) (rs : List RuleD), 0 ≤ atF nm i rs → ∃ r ∈ rs, r.name = nm
  | i, [], h => by simp [atF] at h
  | i, r :: rs, h => by
    rw [atF] at h
    split at h
    · rename_i e; exact ⟨r, List.mem_cons_self .., e⟩
    · obtain ⟨q, hq, e⟩ := atF_at nm (i + 1) rs h
      exact ⟨q, List.mem_cons_of_mem _ hq, e⟩
theorem symB_z {g : List RuleD} (hg : ∀ r ∈ g, r.name.size ≤ 6) {x : SymD} {kn : List ByteArray} (h : (symB x kn (paramsOf g x.text)).2 = true) : SymZ x := by
  refine ⟨symB_k h, ?_, ?_⟩
  · unfold symB at h
    split at h
    · simp only [Bool.and_eq_true, decide_eq_true_eq] at h
      have h1 := h.1.1
      rw [text6, Bool.and_eq_true, decide_eq_true_eq] at h1
      omega
    · split at h
      · simp only [Bool.and_eq_true, decide_eq_true_eq] at h
        have h1 := h.1.1
        rw [okL, Bool.and_eq_true, Bool.and_eq_true, decide_eq_true_eq, decide_eq_true_eq] at h1
        have h2 := h1.2.2
        have h3 : x.text.data.toList.length = x.text.size := by simp
        omega
      · split at h
        · simp only [Bool.and_eq_true, decide_eq_true_eq] at h
          rw [h.1.1.1]
          decide
        · split at h
          · split at h
            · rename_i h5
              simp only [Bool.and_eq_true, decide_eq_true_eq] at h5
              have h6 := h5.1
              unfold paramsOf at h6
              split at h6
              · rename_i h7
                obtain ⟨r, hr, e⟩ := atF_at x.text 0 g h7
                have := hg r hr
                rw [← e]
                omega
              · omega
            · cases h
          · cases h
  · unfold symB at h
    have em : ∀ {s : ByteArray}, s = noS → s.size ≤ 100 := fun e => by rw [e]; decide
    split at h
    · simp only [Bool.and_eq_true, decide_eq_true_eq] at h
      exact em h.2
    · split at h
      · simp only [Bool.and_eq_true, decide_eq_true_eq] at h
        exact em h.2
      · split at h
        · simp only [Bool.and_eq_true, decide_eq_true_eq] at h
          exact em h.1.1.2
        · split at h
          · split at h
            · split at h
              · rename_i h8; exact em h8
              · simp only [Bool.and_eq_true, decide_eq_true_eq] at h
                have h1 := h.1.1
                rw [nameB, Bool.and_eq_true, decide_eq_true_eq] at h1
                omega
            · cases h
          · cases h
theorem symsF_z {g : List RuleD} (hg : ∀ r ∈ g, r.name.size ≤ 6) : ∀ (xs : List SymD) (kn : List ByteArray), symsF g kn xs = true → ∀ s ∈ xs, SymZ s
  | [], _, _, s, hs => by cases hs
  | x :: xs, kn, h, s, hs => by
    rw [symsF, Bool.and_eq_true] at h
    rcases List.mem_cons.1 hs with rfl | hs
    · exact symB_z hg h.1
    · exact symsF_z hg xs _ h.2 s hs
theorem gram_rule {g : List RuleD} (h : gramB g = true) : ∀ r ∈ g, ruleB g r = true := fun r hr => by
  obtain ⟨k, hk, rfl⟩ := List.getElem_of_mem hr
  rw [gramB, Bool.and_eq_true] at h
  have h1 := List.all_eq_true.1 h.2 k (List.mem_range.2 hk)
  rw [gramAt, getR_is g k hk, Bool.and_eq_true] at h1
  exact h1.2
theorem gram_z {g : List RuleD} (h : gramB g = true) : ∀ r ∈ g, RuleZ r := fun r hr => by
  have hn : ∀ r ∈ g, r.name.size ≤ 6 := fun r hr => by
    have h2 := gram_rule h r hr
    simp only [ruleB, Bool.and_eq_true] at h2
    have h3 := h2.1.1.1
    rw [ruleNameB, Bool.and_eq_true, decide_eq_true_eq] at h3
    omega
  have h2 := gram_rule h r hr
  rw [ruleB, Bool.and_eq_true] at h2
  refine ⟨by have := hn r hr; omega, fun p hp => ?_, fun a ha => ?_⟩
  · simp only [Bool.and_eq_true] at h2
    have h3 := h2.1.1.2
    rw [paramsB, Bool.and_eq_true] at h3
    obtain ⟨k, hk, rfl⟩ := List.getElem_of_mem hp
    have h4 := List.all_eq_true.1 h3.1 k (List.mem_range.2 hk)
    rw [parAt_of _ k hk, Bool.and_eq_true] at h4
    have h5 := h4.1
    rw [nameB, Bool.and_eq_true, decide_eq_true_eq] at h5
    omega
  · have h3 := List.all_eq_true.1 h2.2 a ha
    rw [altB, Bool.and_eq_true] at h3
    exact symsF_z hn a _ h3.2

end Go.Proofs.YtcnkegkffmcdmaaGreatDoor
