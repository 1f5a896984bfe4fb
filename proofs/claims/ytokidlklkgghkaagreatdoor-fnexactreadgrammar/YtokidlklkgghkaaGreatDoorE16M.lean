/- The exact law on ReadGrammar, walked. -/
import Derived.Test.YtokidlklkgghkaaGreatDoorS16A
import Derived.Test.YtokidlklkgghkaaGreatDoorS16E
import Derived.Test.YtokidlklkgghkaaGreatDoorHdB
import Derived.Test.YtokidlklkgghkaaGreatDoorHdD
namespace Go.Proofs.YtokidlklkgghkaaGreatDoor
open Go.RowKit
set_option linter.unusedVariables false

/-- Which grammar has this text, if one has. -/
def GrIs (t : List UInt8) (L : List RuleD) (fl : Bool) : Prop := (fl = true ∧ gramO L = true ∧ gramT L = t ∧ listT ruleT16 L ≤ 20004) ∨ (fl = false ∧ L = [] ∧ ∀ g, gramO g = true → gramT g ≠ t)
theorem grOut_is {t : List UInt8} {L : List RuleD} {fl : Bool} (h : GrIs t L fl) {w w' : World} {e : Ending} (ho : GrOut t w e w') : ∃ v, e = .returned (.tuple #[.agg #[v], .bool fl]) ∧ RowF 3 40 RuleF (Nw w.heap.size w'.heap.size) v L w' ∧ Below w.heap.size w w' := by
  obtain ⟨hb, ⟨g, v, h1, h2, h3, rfl, h4⟩ | ⟨h1, rfl⟩⟩ := ho
  · rcases h with ⟨rfl, h5, h6, _⟩ | ⟨rfl, rfl, h5⟩
    · obtain rfl := gramT_inj h1 h5 (h2.trans h6.symm)
      exact ⟨v, rfl, h4, hb⟩
    · exact absurd h2 (h5 g h1)
  · rcases h with ⟨rfl, h5, h6, _⟩ | ⟨rfl, rfl, h5⟩
    · exact absurd h6 (h1 L h5)
    · exact ⟨_, rfl, RowF.none, hb⟩
theorem gr_small {t : List UInt8} {L : List RuleD} {fl : Bool} (h : GrIs t L fl) : grammarTot L ≤ 1048576 := by
  rcases h with ⟨_, _, _, h1⟩ | ⟨_, rfl, _⟩
  · have := gramT_tot L; omega
  · decide
theorem cell_kpM {F : Nat → Prop} {b o : Nat} {w w' : World} {x : Value} (h : w.cell? ⟨b, o, none⟩ = some x) (hm : Kp F w w') (hb : ¬ F b) : w'.cell? ⟨b, o, none⟩ = some x :=
  (World.cell?_of_block (hm.block b (World.block_lt_of_cell? w _ h) hb)).trans h

set_option maxHeartbeats 6400000 in
set_option maxRecDepth 100000 in
theorem readGrammar_walked (s : ByteArray) (w : World) (hs : s.size ≤ 1048576) (hg : errTy w ∧ Turns w) (L : List RuleD) (fl : Bool) (hL : GrIs s.data.toList L fl) :
    Calls Tryz.prog 3 #[.string s] w fun e w' => e = .returned (.bool true) ∧ Below w.heap.size w w' := by
  have HI : Hid (∀ W, Below w.heap.size w W → Calls Tryz.prog 5 #[.string s] W fun e w' => ∃ v, e = .returned (.tuple #[.agg #[v], .bool fl]) ∧ RowF 3 40 RuleF (Nw W.heap.size w'.heap.size) v L w' ∧ Below W.heap.size W w') := fun W hb => (implReadGrammar_any s W (hg.1.below hb) (tab_below hg.2 hb) hs).mono fun e w' h => grOut_is hL h
  have HSp : Hid (Calls Tryz.prog 4 #[.string s] w fun e w' => ∃ v, e = .returned (.tuple #[.agg #[v], .bool fl]) ∧ RowF 3 40 RuleF (Nw w.heap.size w'.heap.size) v L w' ∧ Below w.heap.size w w') := (specReadGrammar_any s w hs).mono fun e w' h => grOut_is hL h
  have hz : grammarTot L ≤ 1048576 := gr_small hL
  have HQ : Hid (∀ u v W, RowC 3 RuleE W u L → RowC 3 RuleE W v L → _) := fun u v W h h' => geqGrammar u v L W hz h h'
  have HCg : Hid ((L.map cntRule).sum ≤ 3145728) := by have := cntGram_le L; rw [Hid]; omega
  have hbb : (fl != fl) = false := by cases fl <;> rfl
  have hs2 : ¬ (1048576 : Int) < (s.size : Int) := by omega
  clear hL hz hg
  go_enter Tryz.func3, Tryz.ntmps3
  go_wp2_with fail
  refine HSp.out.mono ?_
  rintro e w1 ⟨v1, rfl, hs1, hb1⟩
  obtain ⟨a1, c1, rfl⟩ := hs1.slice
  have bal1 := (Below.refl w1.heap.size w1).alloc (Nat.le_refl _) (.cells #[.slice a1 L.length c1] 24)
  have S1 : Hid (RowF 3 40 RuleF (Nw w.heap.size w1.heap.size) (.slice a1 L.length c1) L (w1.alloc (.cells #[.slice a1 L.length c1] 24))) := hs1.below stabRule bal1
  have B1 : Hid (Below w.heap.size w (w1.alloc (.cells #[.slice a1 L.length c1] 24))) := hb1.trans (bal1.mono hb1.size)
  have hS1 : (w1.alloc (.cells #[.slice a1 L.length c1] 24)).cell? ⟨w1.heap.size, 0, none⟩ = some (.slice a1 L.length c1) := box_at _ _ _ 0 _ rfl
  have Z1 : Hid (w.heap.size ≤ w1.heap.size ∧ w1.heap.size < (w1.alloc (.cells #[.slice a1 L.length c1] 24)).heap.size) := ⟨hb1.size, by simp⟩
  clear hb1 hs1 bal1 HSp
  go_wp2_with fail
  generalize w1.alloc (.cells #[.slice a1 L.length c1] 24) = W1 at *
  generalize w1.heap.size = H1 at *
  refine (HI.out _ B1.out).mono ?_
  rintro e w2 ⟨v2, rfl, hg2, hb2⟩
  obtain ⟨a2, c2, rfl⟩ := hg2.slice
  have bal2 := (Below.refl w2.heap.size w2).alloc (Nat.le_refl _) (.cells #[.slice a2 L.length c2] 24)
  have hb2a : Below W1.heap.size W1 (w2.alloc (.cells #[.slice a2 L.length c2] 24)) := hb2.trans (bal2.mono hb2.size)
  have G2 : Hid (RowF 3 40 RuleF (Nw W1.heap.size w2.heap.size) (.slice a2 L.length c2) L (w2.alloc (.cells #[.slice a2 L.length c2] 24))) := hg2.below stabRule bal2
  have S2 : Hid (RowF 3 40 RuleF (Nw w.heap.size H1) (.slice a1 L.length c1) L (w2.alloc (.cells #[.slice a2 L.length c2] 24))) := S1.out.below stabRule hb2a
  have B2 : Hid (Below w.heap.size w (w2.alloc (.cells #[.slice a2 L.length c2] 24))) := B1.out.trans (hb2a.mono B1.out.size)
  have hS2 := cell_keep hS1 hb2a
  have hG2 : (w2.alloc (.cells #[.slice a2 L.length c2] 24)).cell? ⟨w2.heap.size, 0, none⟩ = some (.slice a2 L.length c2) := box_at _ _ _ 0 _ rfl
  have Z2 : Hid (W1.heap.size ≤ w2.heap.size) := hb2.size
  clear hb2 hb2a hg2 bal2 hS1 S1 B1
  go_wp2_with fail
  generalize w2.alloc (.cells #[.slice a2 L.length c2] 24) = W2 at *
  generalize w2.heap.size = H2 at *
  generalize W1.heap.size = K1 at *
  refine (HQ.out _ _ _ (G2.out.rowC (fun F w vs x h => h.e)) (S2.out.rowC (fun F w vs x h => h.e))).mono ?_
  rintro e w3 ⟨rfl, hb3⟩
  have G3 : Hid (RowF 3 40 RuleF (Nw K1 H2) (.slice a2 L.length c2) L w3) := G2.out.below stabRule hb3
  have S3 : Hid (RowF 3 40 RuleF (Nw w.heap.size H1) (.slice a1 L.length c1) L w3) := S2.out.below stabRule hb3
  have B3 : Hid (Below w.heap.size w w3) := B2.out.trans (hb3.mono B2.out.size)
  have hS3 := cell_keep hS2 hb3
  have hG3 := cell_keep hG2 hb3
  clear hb3 hS2 hG2 S2 G2 B2
  obtain ⟨cg, hcg, hHd⟩ := (gram_hd G3.out).2
  have hcg2 : cg ≤ 3145728 := Nat.le_trans hcg HCg.out
  obtain ⟨m, hm, hm0⟩ : ∃ m : Int, m = ((1 + cg : Nat) : Int) ∧ ¬ m < 0 := ⟨_, rfl, by omega⟩
  have HMg : Hid (Calls Tryz.prog 7 #[.agg #[.slice a2 L.length c2], .int .i64 1] w3 fun e w' => e = .returned (.int .i64 m) ∧ Kp (Nw K1 H2) w3 w' ∧ Hd tau 6 (.row 40) w' (.slice a2 L.length c2) cg (Nw K1 H2) (some 1)) := by
    rw [hm]
    exact hmGrammar (n := 0) _ 1 w3 (by omega) (by omega) hHd
  have HHg : Hid (∀ W, Hd tau 6 (.row 40) W (.slice a2 L.length c2) cg (Nw K1 H2) (some 1) → Calls Tryz.prog 8 #[.agg #[.slice a2 L.length c2], .int .i64 1] W fun e w' => e = .returned (.int .i64 m) ∧ Below W.heap.size W w') := by
    rw [hm]
    exact fun W hW => hhGrammar (n := 0) _ 1 W (by omega) (by omega) hW
  clear hm hcg hHd hcg2 HCg
  go_wp2_with fail
  refine HMg.out.mono ?_
  rintro e w4 ⟨rfl, hk4, hd4⟩
  have D4 : Hid (Hd tau 6 (.row 40) w4 (.slice a2 L.length c2) cg (Nw K1 H2) (some 1)) := hd4
  obtain ⟨hz1, hz2⟩ := Z1.out
  have hS4 := cell_kpM hS3 hk4 (fun h => by have h1 := h.1; omega)
  have hG4 := cell_kpM hG3 hk4 (fun h => by have h1 := h.2; omega)
  have S4 : Hid (RowF 3 40 RuleF (Nw w.heap.size H1) (.slice a1 L.length c1) L w4) := S3.out.ag stabRule (hk4.ag (fun k hk h => by have h0 := hk.2; have h1 := h.1; omega))
  have B4 : Hid (Below w.heap.size w w4) := Kp.onto B3.out (Nat.le_refl _) (fun k hk => by have := hk.1; omega) hk4
  clear hk4 hd4 hS3 hG3 G3 S3 HMg B3
  go_wp2_with fail
  refine (HHg.out _ D4.out).mono ?_
  rintro e w5 ⟨rfl, hb5⟩
  have D5 : Hid (Hd tau 6 (.row 40) w5 (.slice a2 L.length c2) cg (Nw K1 H2) (some 1)) := Hd.ag _ _ _ _ _ _ D4.out (Ag.below hb5)
  have hS5 := cell_keep hS4 hb5
  have hG5 := cell_keep hG4 hb5
  have S5 : Hid (RowF 3 40 RuleF (Nw w.heap.size H1) (.slice a1 L.length c1) L w5) := S4.out.below stabRule hb5
  have B5 : Hid (Below w.heap.size w w5) := B4.out.trans (hb5.mono B4.out.size)
  clear hb5 hS4 hG4 S4 D4 B4
  go_wp2_with fail
  refine (HI.out _ B5.out).mono ?_
  rintro e w6 ⟨v6, rfl, hh6, hb6⟩
  obtain ⟨a6, c6, rfl⟩ := hh6.slice
  have bal6 := (Below.refl w6.heap.size w6).alloc (Nat.le_refl _) (.cells #[.slice a6 L.length c6] 24)
  have hb6a : Below w5.heap.size w5 (w6.alloc (.cells #[.slice a6 L.length c6] 24)) := hb6.trans (bal6.mono hb6.size)
  have Q6 : Hid (RowC 3 RuleE (w6.alloc (.cells #[.slice a6 L.length c6] 24)) (.slice a6 L.length c6) L) := (hh6.below stabRule bal6).rowC (fun F w vs x h => h.e)
  have D6 : Hid (Hd tau 6 (.row 40) (w6.alloc (.cells #[.slice a6 L.length c6] 24)) (.slice a2 L.length c2) cg (Nw K1 H2) (some 1)) := Hd.ag _ _ _ _ _ _ D5.out (Ag.below hb6a)
  have hS6 := cell_keep hS5 hb6a
  have hG6 := cell_keep hG5 hb6a
  have hH6 : (w6.alloc (.cells #[.slice a6 L.length c6] 24)).cell? ⟨w6.heap.size, 0, none⟩ = some (.slice a6 L.length c6) := box_at _ _ _ 0 _ rfl
  have S6 : Hid (RowF 3 40 RuleF (Nw w.heap.size H1) (.slice a1 L.length c1) L (w6.alloc (.cells #[.slice a6 L.length c6] 24))) := S5.out.below stabRule hb6a
  have B6 : Hid (Below w.heap.size w (w6.alloc (.cells #[.slice a6 L.length c6] 24))) := B5.out.trans (hb6a.mono B5.out.size)
  clear hb6 hb6a hh6 bal6 hS5 hG5 S5 D5 B5
  go_wp2_with fail
  generalize w6.alloc (.cells #[.slice a6 L.length c6] 24) = W6 at *
  generalize w6.heap.size = H6 at *
  refine (HQ.out _ _ _ Q6.out (S6.out.rowC (fun F w vs x h => h.e))).mono ?_
  rintro e w7 ⟨rfl, hb7⟩
  have D7 : Hid (Hd tau 6 (.row 40) w7 (.slice a2 L.length c2) cg (Nw K1 H2) (some 1)) := Hd.ag _ _ _ _ _ _ D6.out (Ag.below hb7)
  have hG7 := cell_keep hG6 hb7
  have B7 : Hid (Below w.heap.size w w7) := B6.out.trans (hb7.mono B6.out.size)
  clear hb7 hG6 hS6 hH6 S6 D6 Q6 B6
  go_wp2_with fail
  refine (HHg.out _ D7.out).mono ?_
  rintro e w8 ⟨rfl, hb8⟩
  have B8 : Hid (Below w.heap.size w w8) := B7.out.trans (hb8.mono B7.out.size)
  clear hb8
  go_wp2
  go_ret
  exact ⟨rfl, B8.out⟩

theorem fnExactReadGrammar_walk (s : ByteArray) (_hs : s.size ≤ maxLen) (w : World) (hg : errTy w ∧ Turns w) :
    Calls Tryz.prog 3 #[.string s] w fun e w' => e = .returned (.bool true) ∧ Below w.heap.size w w' := by
  by_cases h1 : s.size ≤ 1048576
  · obtain ⟨L, fl, hL⟩ : ∃ L fl, GrIs s.data.toList L fl := by
      by_cases h : ∃ g, gramO g = true ∧ gramT g = s.data.toList
      · obtain ⟨g, h2, h3⟩ := h
        refine ⟨g, true, .inl ⟨rfl, h2, h3, ?_⟩⟩
        obtain ⟨cs, hcs⟩ : ∃ cs : List Frame, True := ⟨[], trivial⟩
        obtain ⟨e, w', fr, ho, _⟩ := specReadGrammar_any s w h1 cs
        obtain ⟨_, ⟨g', v, h4, h5, h6, _⟩ | ⟨h4, _⟩⟩ := ho
        · rw [← gramT_inj h4 h2 (h5.trans h3.symm)]
          exact h6
        · exact absurd h3 (h4 g h2)
      · exact ⟨[], false, .inr ⟨rfl, rfl, fun g h2 h3 => h ⟨g, h2, h3⟩⟩⟩
    exact readGrammar_walked s w h1 hg L fl hL
  · have h2 : (1048576 : Int) < s.size := by omega
    clear hg
    go_enter Tryz.func3, Tryz.ntmps3
    go_wp2
    go_ret
    exact ⟨rfl, Below.refl _ _⟩
end Go.Proofs.YtokidlklkgghkaaGreatDoor
