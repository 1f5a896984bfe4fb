/- FnRuleNames, walked out of a contract on l06Any. -/
import Derived.Test.YtmacbobobaohgaaFlG2
import Derived.Test.YtmacbobobaohgaaDrR
import Derived.Test.YtmacbobobaohgaaINam
namespace Go.Proofs.Ytmacbobobaohgaa
open Go.RowKit
set_option linter.unusedVariables false

theorem bigR_any (a : Option Addr) (n cap : Nat) (w : World) :
    Calls Try.prog 4 #[.slice a n cap] w fun e w' => e = .returned (.bool (decide (1048576 < (n : Int)))) ∧ w' = w := by
  go_enter Try.func4, Try.ntmps4
  go_wp2
  go_ret
  exact ⟨rfl, rfl⟩
theorem keepTwoR {W W' : World} {a b : Addr} {x y : Value} (h : W.cell? a = some x ∧ W.cell? b = some y) (hb : Below W.heap.size W W') : W'.cell? a = some x ∧ W'.cell? b = some y := ⟨cell_keep h.1 hb, cell_keep h.2 hb⟩

set_option maxHeartbeats 6400000 in
set_option maxRecDepth 100000 in
theorem fnRuleNames_of (hA : AnyC (fun G => rnB G = true)) (a : Option Addr) (n cap : Nat) (w : World) (hcode : CodeRow w (.slice a n cap) n) :
    Calls Try.prog 3 #[.slice a n cap] w fun e w' => e = .returned (.bool true) ∧ Below w.heap.size w w' := by
  have HC : Hid (CodeRow w (.slice a n cap) n) := hcode
  have HAn : Hid (AnyC (fun G => rnB G = true)) := hA
  have HBig : Hid (∀ _ : Unit, _) := fun _ => bigR_any a n cap w
  clear hcode hA
  by_cases hbig : (1048576 : Int) < (n : Int)
  · have hd : decide ((1048576 : Int) < (n : Int)) = true := decide_eq_true hbig
    go_enter Try.func3, Try.ntmps3
    go_wp2_with fail
    refine (HBig.out ()).mono ?_
    rintro e w1 ⟨rfl, rfl⟩
    rw [hd]
    go_wp2
    go_ret
    exact ⟨rfl, Below.refl _ _⟩
  have hd : decide ((1048576 : Int) < (n : Int)) = false := decide_eq_false hbig
  have hn : n ≤ 1000000000000 := by omega
  go_enter Try.func3, Try.ntmps3
  go_wp2_with fail
  refine (HBig.out ()).mono ?_
  rintro e w1 ⟨rfl, rfl⟩
  rw [hd]
  go_wp2_with fail
  refine (drawPair_of (fun G => rnB G = true) hG13 w1 (.slice a n cap) n w1 hn HC.out (Below.refl _ _)).mono ?_
  rintro e w2 ⟨G, o, t, hP, rfl, ht, hh, hb2⟩
  obtain ⟨hcp, hnm, hat, hno⟩ := rn_of hP
  obtain ⟨hG0, hCI, _⟩ := cp_of hcp
  obtain ⟨ao, co, rfl⟩ := RowC.slice hh.here
  have hGl : G.length ≤ 1048576 := hCI.1
  have HNm : Hid (∀ r ∈ G, ruleNameB r.name = true ∧ r.name.size ≤ 6) := hnm
  have HAt : Hid (∀ i (hi : i < G.length), ruleAtI G G[i].name = (i : Int)) := hat
  have HNo : Hid (ruleAtI G none4 = -1) := hno
  have HR2 : Hid (RowC 3 RuleE w2 (.slice ao G.length co) G) := hh.here
  have B2 : Hid (Below w1.heap.size w1 w2) := hb2
  clear hP hcp hCI hh hb2 hnm hat hno hbig
  have bal : Below w2.heap.size w2 (w2.alloc (.cells #[.slice ao G.length co] 26)) := (Below.refl _ _).alloc (Nat.le_refl _) _
  have c0 : (w2.alloc (.cells #[.slice ao G.length co] 26)).cell? ⟨w2.heap.size, 0, none⟩ = some (.slice ao G.length co) := box_at _ _ _ 0 _ rfl
  have HR3 : Hid (RowC 3 RuleE (w2.alloc (.cells #[.slice ao G.length co] 26)) (.slice ao G.length co) G) := RowC.below RuleE_stable HR2.out bal
  have B3 : Hid (Below w1.heap.size w1 (w2.alloc (.cells #[.slice ao G.length co] 26))) := B2.out.trans (bal.mono B2.out.size)
  clear bal HR2 B2
  go_upto_region 5 with fail
  generalize w2.alloc (.cells #[.slice ao G.length co] 26) = W3 at *
  generalize w2.heap.size = bx at *
  have HRA : Hid (∀ (name : ByteArray) (W : World), Below W3.heap.size W3 W → Calls Try.prog 6 #[.agg #[.slice ao G.length co], .string name] W fun e w' => e = .returned (.int .i64 (ruleAtI G name)) ∧ Below W.heap.size W w') := fun name W hW => implRuleAt_any _ G name W hGl (RowC.below RuleE_stable HR3.out hW)
  go_loopw [5] (fun iv wr => ∃ k : Nat, iv = .int .i64 k ∧ k ≤ G.length ∧ Below W3.heap.size W3 wr) (fun iv _ => G.length - (intOf iv).toNat)
  case atStart => exact ⟨0, rfl, Nat.zero_le _, Below.refl _ _⟩
  case round =>
    obtain ⟨k, rfl, hk, hbr⟩ := hrel
    have BR : Hid (Below W3.heap.size W3 wr) := hbr
    have c1 := cell_keep c0 hbr
    clear hbr
    by_cases hlt : k < G.length
    · obtain ⟨b, off, vs, rfl, _, hc, hE⟩ := (RowC.below RuleE_stable HR3.out BR.out).at hlt
      obtain ⟨r0, r1, rfl, _, _⟩ := hE
      have n0 : wr.cell? ⟨b, off + k * 3, none⟩ = some (.string G[k].name) := hc 0 (by simp)
      have i4 : (k : Int) < (G.length : Int) := by omega
      have hat := HAt.out k hlt
      obtain ⟨hnm, hsz⟩ := HNm.out G[k] (List.getElem_mem hlt)
      have BD : Hid (Below W3.heap.size W3 wr.drew) := bel_drewS BR.out
      have HC1 : Hid (∀ _ : Unit, Calls Try.prog 6 #[.agg #[.slice (some ⟨b, off, none⟩) G.length co], .string G[k].name] wr.drew fun e w' => e = .returned (.int .i64 (k : Int)) ∧ Below wr.drew.heap.size wr.drew w') := fun _ => by
        have := HRA.out G[k].name wr.drew BD.out
        rwa [hat] at this
      have HC2 : Hid (∀ W : World, Calls Try.prog 7 #[.string G[k].name] W fun e w' => e = .returned (.bool true) ∧ w' = W) := fun W => by
        have := implRuleName_any G[k].name W (by omega)
        rwa [hnm] at this
      have q1 : ((k : Int) != (k : Int)) = false := by simp
      clear hc hat hnm hsz HR3
      generalize G[k].name = nm at *
      go_wp2
      go_region_held3 (fun W => W.cell? ⟨bx, 0, none⟩ = some (.slice (some ⟨b, off, none⟩) G.length co) ∧ W.cell? ⟨b, off + k * 3, none⟩ = some (.string nm))
        ((first | exact keepTwoR (by assumption) hb5 | go_keep))
        ((first
          | (go_at_call 7; refine (HC2.out _).mono ?_; rintro e w6 ⟨rfl, hw6⟩; rw [hw6]; clear hw6)
          | (go_at_call 6; refine (HC1.out ()).mono ?_; rintro e w5 ⟨rfl, hb5⟩)))
      have B5 : Hid (Below W3.heap.size W3 w5) := BD.out.trans (hb5.mono BD.out.size)
      clear hb5
      go_wp2
      go_roundw
      case rel => exact ⟨k + 1, by go_num, by omega, B5.out⟩
      case measure => simp [intOf]; omega
    · obtain rfl : k = G.length := by omega
      have B4 : Hid (Below w1.heap.size w1 wr) := B3.out.trans (BR.out.mono B3.out.size)
      go_wp2_with fail
      refine (drawRuleAt_of (fun G => rnB G = true) HAn.out w1 (.slice a n cap) n wr hn HC.out B4.out).mono ?_
      rintro e w5 ⟨G1, hP1, G2, hO, o2, t2, rfl, ht2, hh2, hb5⟩
      obtain ⟨a2, cc2, rfl⟩ := RowC.slice hh2.here
      have hG2 : G2.length ≤ 1048576 := Nat.le_trans hO.len (cp_of (rn_of hP1).1).2.1.1
      have HR5 : Hid (RowC 3 RuleE w5 (.slice a2 G2.length cc2) G2) := hh2.here
      have B5 : Hid (Below w1.heap.size w1 w5) := B4.out.trans (hb5.mono B4.out.size)
      have BB5 : Hid (Below W3.heap.size W3 w5) := BR.out.trans (hb5.mono BR.out.size)
      have c5 := cell_keep c1 hb5
      have bal : Below w5.heap.size w5 (w5.alloc (.cells #[.slice a2 G2.length cc2] 26)) := (Below.refl _ _).alloc (Nat.le_refl _) _
      have c6 := cell_keep c5 bal
      have c7 : (w5.alloc (.cells #[.slice a2 G2.length cc2] 26)).cell? ⟨w5.heap.size, 0, none⟩ = some (.slice a2 G2.length cc2) := box_at _ _ _ 0 _ rfl
      have HR6 : Hid (RowC 3 RuleE (w5.alloc (.cells #[.slice a2 G2.length cc2] 26)) (.slice a2 G2.length cc2) G2) := RowC.below RuleE_stable HR5.out bal
      have B6 : Hid (Below w1.heap.size w1 (w5.alloc (.cells #[.slice a2 G2.length cc2] 26))) := B5.out.trans (bal.mono B5.out.size)
      have BB6 : Hid (Below W3.heap.size W3 (w5.alloc (.cells #[.slice a2 G2.length cc2] 26))) := BB5.out.trans (bal.mono BB5.out.size)
      clear hP1 hO hh2 hb5 bal c5 c1 BR B4 B5 BB5 HR5
      go_wp2_with fail
      generalize w5.alloc (.cells #[.slice a2 G2.length cc2] 26) = W6 at *
      generalize w5.heap.size = by6 at *
      refine (drawRuleName_any w1 (.slice a n cap) n W6 hn HC.out B6.out).mono ?_
      rintro e w7 ⟨s, rfl, hs, hb7⟩
      have c8 := cell_keep c6 hb7
      have c9 := cell_keep c7 hb7
      have B7 : Hid (Below w1.heap.size w1 w7.drew) := bel_drewS (B6.out.trans (hb7.mono B6.out.size))
      have BB7 : Hid (Below W3.heap.size W3 w7.drew) := bel_drewS (BB6.out.trans (hb7.mono BB6.out.size))
      have B67 : Hid (Below W6.heap.size W6 w7.drew) := bel_drewS hb7
      have HX1 : Hid (∀ W : World, Below W6.heap.size W6 W → Calls Try.prog 6 #[.agg #[.slice a2 G2.length cc2], .string t2] W fun e w' => e = .returned (.int .i64 (ruleAtI G2 t2)) ∧ Below W.heap.size W w') := fun W hW => implRuleAt_any _ G2 t2 W hG2 (RowC.below RuleE_stable HR6.out hW)
      have HX2 : Hid (∀ W : World, Below W6.heap.size W6 W → Calls Try.prog 10 #[.agg #[.slice a2 G2.length cc2], .string t2] W fun e w' => e = .returned (.int .i64 (ruleAtI G2 t2)) ∧ Below W.heap.size W w') := fun W hW => specRuleAt_any _ G2 t2 W hG2 (RowC.below RuleE_stable HR6.out hW)
      have HX3 : Hid (∀ W : World, Calls Try.prog 7 #[.string s] W fun e w' => e = .returned (.bool (ruleNameB s)) ∧ w' = W) := fun W => implRuleName_any s W (by omega)
      have HX4 : Hid (∀ W : World, Calls Try.prog 11 #[.string s] W fun e w' => e = .returned (.bool (ruleNameB s)) ∧ w' = W) := fun W => specRuleName_any s W (by omega)
      have HX0 : Hid (∀ _ : Unit, Calls Try.prog 6 #[.agg #[.slice ao G.length co], .string ⟨#[110, 111, 110, 101]⟩] w7.drew fun e w' => e = .returned (.int .i64 (-1)) ∧ Below w7.drew.heap.size w7.drew w') := fun _ => by
        have := HRA.out none4 w7.drew BB7.out
        rw [HNo.out] at this
        exact this
      clear hb7 c6 c7 c0 HRA HAn HNm HAt HNo HR3 HR6 BB6 B6 BB7 B3
      generalize ruleAtI G2 t2 = z at *
      generalize ruleNameB s = bb at *
      have q1 : ((-1 : Int) == (-1 : Int)) = true := rfl
      have q2 : (z == z) = true := by simp
      have q3 : (bb == bb) = true := by cases bb <;> rfl
      have q4 : (0 : Int) < (G.length : Int) := by omega
      go_wp2
      go_region_held3 (fun W => W.cell? ⟨bx, 0, none⟩ = some (.slice ao G.length co) ∧ W.cell? ⟨by6, 0, none⟩ = some (.slice a2 G2.length cc2))
        ((first | exact keepTwoR (by assumption) hb10 | exact keepTwoR (by assumption) hb9 | exact keepTwoR (by assumption) hb8 | go_keep))
        ((first
          | (go_at_call 11; refine (HX4.out _).mono ?_; rintro e w12 ⟨rfl, hw12⟩; rw [hw12]; clear hw12)
          | (go_at_call 7; refine (HX3.out _).mono ?_; rintro e w11 ⟨rfl, hw11⟩; rw [hw11]; clear hw11)
          | (go_at_call 10; refine (HX2.out _ (B67.out.trans ((hb8.mono B67.out.size).trans (hb9.mono (Nat.le_trans B67.out.size hb8.size))))).mono ?_; rintro e w10 ⟨rfl, hb10⟩)
          | (go_at_call 6; refine (HX1.out _ (B67.out.trans (hb8.mono B67.out.size))).mono ?_; rintro e w9 ⟨rfl, hb9⟩)
          | (go_at_call 6; refine (HX0.out ()).mono ?_; rintro e w8 ⟨rfl, hb8⟩)))
      have B10 : Hid (Below w1.heap.size w1 w10) := by
        have h8 := B7.out.trans (hb8.mono B7.out.size)
        have h9 := h8.trans (hb9.mono h8.size)
        exact h9.trans (hb10.mono h9.size)
      clear hb8 hb9 hb10
      go_wp2
      go_ret
      exact ⟨rfl, B10.out⟩

end Go.Proofs.Ytmacbobobaohgaa
