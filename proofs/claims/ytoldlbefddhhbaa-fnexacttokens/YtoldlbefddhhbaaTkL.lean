/- The exact law on Tokens, walked out of contracts, the program's own contract handed in. -/
import Derived.Test.YtoldlbefddhhbaaTkM
import Derived.Test.YtoldlbefddhhbaaS10Q
namespace Go.Proofs.Ytoldlbefddhhbaa
open Go.RowKit
set_option linter.unusedVariables false

theorem OwnT.kept {B : Nat} {v : Value} {xs : List TokD} {w w' : World} {row : Option Nat} (h : OwnT B v xs w) (hg : w.grownBy w' row) (hne : ∀ k, v.ownBlock = some k → row ≠ some k) : OwnT B v xs w' :=
  World.ownsRow.kept h hg (by
    cases hv : v.ownBlock with
    | none => exact .inl rfl
    | some k => exact .inr (fun e => hne k hv e.symm))

set_option maxHeartbeats 1600000 in
set_option maxRecDepth 100000 in
theorem fnExactTokens_of (s : ByteArray) (_hs : s.size ≤ maxLen) (w : World) (hI : s.size ≤ 1048576 → TokensC 6 s) :
    Calls Try.prog 3 #[.string s] w fun e w' => e = .returned (.bool true) ∧ Below w.heap.size w w' := by
  by_cases hz : s.size ≤ 1048576
  · have HI : Hid (TokensC 6 s) := hI hz
    have HS : Hid (TokensC 5 s) := fun W => tokens_any s W hz
    have hL := (tokensB_I s).1
    unfold TokensC at HI HS
    clear hI _hs
    generalize (tokensB s).1 = L at *
    generalize (tokensB s).2 = P at *
    have hP : (P == P) = true := by simp
    go_enter Try.func3, Try.ntmps3
    go_wp2_with fail
    refine (HS.out _).mono ?_
    rintro e w1 ⟨s0, rfl, hs1, hb1⟩
    have S1 : Hid (OwnT w.heap.size s0 L w1) := ownT_of hs1
    have HSb : Hid (∀ k, s0.ownBlock = some k → k < w1.heap.size) := fun k hk => (RowO.lt hs1 k hk).2
    have B1 : Hid (Below w.heap.size w w1) := hb1
    clear hs1 hb1
    go_wp2_with fail
    refine (HI.out _).mono ?_
    rintro e w2 ⟨g0, rfl, hg2, hb2⟩
    have G2 : Hid (OwnT w1.heap.size g0 L w2) := ownT_of hg2
    have HG : Hid (∀ k, g0.ownBlock = some k → w1.heap.size ≤ k) := fun k hk => (RowO.lt hg2 k hk).1
    have S2 : Hid (OwnT w.heap.size s0 L w2) := S1.out.below hb2
    have B2 : Hid (Below w.heap.size w w2) := B1.out.trans (hb2.mono B1.out.size)
    clear hg2 hb2
    go_wp2_with fail
    refine (eqTokenS_same _ _ L _ (by omega) G2.out.row S2.out.row).mono ?_
    rintro e w3 ⟨rfl, hb3⟩
    have G3 : Hid (OwnT w1.heap.size g0 L w3) := G2.out.below hb3
    have S3 : Hid (OwnT w.heap.size s0 L w3) := S2.out.below hb3
    have B3 : Hid (Below w.heap.size w w3) := B2.out.trans (hb3.mono B2.out.size)
    clear hb3
    go_wp2_with fail
    refine (markTokenS_any _ _ L 1 _ (by omega) (by omega) (by omega) G3.out).mono ?_
    rintro e w4 ⟨rfl, hg4, hgr4⟩
    have G4 : Hid (OwnT w1.heap.size g0 (tmarks 1 L.length) w4) := hg4
    have S4 : Hid (OwnT w.heap.size s0 L w4) := S3.out.kept hgr4 (fun k hk e => by have h1 := HSb.out k hk; have h2 := HG.out k e; omega)
    have B4 : Hid (Below w.heap.size w w4) := B3.out.grown hgr4 B3.out.size (fun k hk => Nat.le_trans B1.out.size (HG.out k hk))
    clear hg4 hgr4
    go_wp2_with fail
    refine (heldTokenS_any _ L.length 1 _ (by omega) (by omega) (by omega) G4.out.row).mono ?_
    rintro e w5 ⟨rfl, hb5⟩
    have G5 : Hid (OwnT w1.heap.size g0 (tmarks 1 L.length) w5) := G4.out.below hb5
    have S5 : Hid (OwnT w.heap.size s0 L w5) := S4.out.below hb5
    have B5 : Hid (Below w.heap.size w w5) := B4.out.trans (hb5.mono B4.out.size)
    clear hb5
    go_wp2_with fail
    refine (HI.out _).mono ?_
    rintro e w6 ⟨h0, rfl, hh6, hb6⟩
    have H6 : Hid (TokR w6 h0 L) := (ownT_of hh6).row
    have G6 : Hid (OwnT w1.heap.size g0 (tmarks 1 L.length) w6) := G5.out.below hb6
    have S6 : Hid (OwnT w.heap.size s0 L w6) := S5.out.below hb6
    have B6 : Hid (Below w.heap.size w w6) := B5.out.trans (hb6.mono B5.out.size)
    clear hh6 hb6
    go_wp2_with fail
    refine (eqTokenS_same _ _ L _ (by omega) H6.out S6.out.row).mono ?_
    rintro e w7 ⟨rfl, hb7⟩
    have G7 : Hid (OwnT w1.heap.size g0 (tmarks 1 L.length) w7) := G6.out.below hb7
    have B7 : Hid (Below w.heap.size w w7) := B6.out.trans (hb7.mono B6.out.size)
    clear hb7
    go_wp2_with fail
    refine (heldTokenS_any _ L.length 1 _ (by omega) (by omega) (by omega) G7.out.row).mono ?_
    rintro e w8 ⟨rfl, hb8⟩
    have B8 : Hid (Below w.heap.size w w8) := B7.out.trans (hb8.mono B7.out.size)
    clear hb8
    go_wp2
    go_ret
    exact ⟨rfl, B8.out⟩
  · have h2 : (1048576 : Int) < s.size := by omega
    go_enter Try.func3, Try.ntmps3
    go_wp2
    go_ret
    exact ⟨rfl, Below.refl _ _⟩

end Go.Proofs.Ytoldlbefddhhbaa
