/- FnTokenFaults, walked out of a contract on the program's Tokens. -/
import Derived.Test.YtoldlbefddhhbaaTkF
namespace Go.Proofs.Ytoldlbefddhhbaa
open Go.RowKit
set_option linter.unusedVariables false

theorem toks_fault (n : Nat) : ∀ (f : Nat) (out : List TokD) (l : List UInt8), (toks10 n f out l).2 = 0 ∨ (toks10 n f out l).1 = []
  | 0, out, l => .inl rfl
  | f + 1, out, [] => .inl rfl
  | f + 1, out, b :: l => by
    rw [toks10]
    split
    · exact toks_fault n f out l
    · split
      · exact toks_fault n f out _
      · cases one10 (b :: l) with
        | none => exact .inr rfl
        | some q =>
          obtain ⟨t, k⟩ := q
          simp only []
          split
          · exact .inr rfl
          · exact toks_fault n f _ _
theorem tokens_fault (s : ByteArray) : (tokensB s).2 = 0 ∨ (tokensB s).1 = [] := by
  unfold tokensB
  split
  · exact .inr rfl
  · exact toks_fault _ _ _ _

theorem bigT_any (a : Option Addr) (n cap : Nat) (w : World) :
    Calls Try.prog 10 #[.slice a n cap] w fun e w' => e = .returned (.bool (decide (1048576 < (n : Int)))) ∧ w' = w := by
  go_enter Try.func10, Try.ntmps10
  go_wp2
  go_ret
  exact ⟨rfl, rfl⟩

set_option maxHeartbeats 1600000 in
set_option maxRecDepth 100000 in
theorem fnTokenFaults_of (hI : ∀ s : ByteArray, s.size ≤ 1048576 → TokensC 6 s) (a : Option Addr) (n cap : Nat) (w : World) (hcode : CodeRow w (.slice a n cap) n) :
    Calls Try.prog 4 #[.slice a n cap] w fun e w' => e = .returned (.bool true) ∧ Below w.heap.size w w' := by
  have HC : Hid (CodeRow w (.slice a n cap) n) := hcode
  have HI0 : Hid (∀ s : ByteArray, s.size ≤ 1048576 → TokensC 6 s) := hI
  clear hcode hI
  by_cases hn : n ≤ 1048576
  · have hd : decide (1048576 < (n : Int)) = false := by simp; omega
    go_enter Try.func4, Try.ntmps4
    go_wp2_with fail
    refine (bigT_any a n cap _).mono ?_
    rintro e wq ⟨rfl, hw⟩
    rw [hw, hd]
    clear hw wq
    go_wp2_with fail
    refine (drawTokens_any w _ n _ (by omega) HC.out (Below.refl _ _)).mono ?_
    rintro e w1 ⟨s, rfl, hs, hb1⟩
    have B1 : Hid (Below w.heap.size w w1) := hb1
    have HI : Hid (TokensC 6 s) := HI0.out s (by omega)
    have HS : Hid (TokensC 5 s) := fun W => tokens_any s W (by omega)
    have hL := (tokensB_I s).1
    have HF : Hid ((tokensB s).2 = 0 ∨ (tokensB s).1 = []) := tokens_fault s
    unfold TokensC at HI HS
    clear hb1
    generalize (tokensB s).1 = L at *
    generalize (tokensB s).2 = P at *
    go_wp2_with fail
    refine (HI.out _).mono ?_
    rintro e w2 ⟨g0, rfl, hg2, hb2⟩
    have G2 : Hid (TokR w2 g0 L) := (ownT_of hg2).row
    have B2 : Hid (Below w.heap.size w w2) := B1.out.trans (hb2.mono B1.out.size)
    clear hg2 hb2
    go_wp2_with fail
    refine (HS.out _).mono ?_
    rintro e w3 ⟨s0, rfl, hs3, hb3⟩
    have S3 : Hid (TokR w3 s0 L) := (ownT_of hs3).row
    have G3 : Hid (TokR w3 g0 L) := G2.out.below hb3
    have B3 : Hid (Below w.heap.size w w3) := B2.out.trans (hb3.mono B2.out.size)
    clear hs3 hb3
    obtain ⟨ag, cg, rfl⟩ := RowC.slice G3.out
    obtain ⟨a3, c3, rfl⟩ := RowC.slice S3.out
    go_wp2
    go_loopw [8] (fun iv wr => ∃ k q : Nat, iv = .int .i64 k ∧ k ≤ L.length ∧ wr = w3.drewN q) (fun iv _ => L.length - (intOf iv).toNat)
    case atStart => exact ⟨0, 0, rfl, Nat.zero_le _, rfl⟩
    case round =>
      obtain ⟨k, q, rfl, hk, rfl⟩ := hrel
      by_cases hlt : k < L.length
      · obtain ⟨b, off, rfl, hc1, hc2⟩ := G3.out.at hlt
        obtain ⟨b', off', rfl, hc3, hc4⟩ := S3.out.at hlt
        have i4 : (k : Int) < (L.length : Int) := by omega
        have hT := beq_yes (rfl : L[k].text = L[k].text)
        generalize L[k].kind = K at *
        generalize L[k].text = T at *
        go_wp2
        go_region
        go_wp2
        go_roundw
        case rel => exact ⟨k + 1, q + 1, by go_num, by omega, rfl⟩
        case measure => simp [intOf]; omega
      · obtain rfl : k = L.length := by omega
        by_cases hp : P = 0
        · subst hp
          go_wp2
          go_ret
          exact ⟨rfl, bel_drewN B3.out q⟩
        · have hl0 : L.length = 0 := by rw [HF.out.resolve_left hp]; rfl
          have hp0 : (P == 0) = false := by simpa using hp
          rw [hl0]
          go_wp2
          go_ret
          exact ⟨rfl, bel_drewN B3.out q⟩
  · have hd : decide (1048576 < (n : Int)) = true := by simp; omega
    go_enter Try.func4, Try.ntmps4
    go_wp2_with fail
    refine (bigT_any a n cap _).mono ?_
    rintro e wq ⟨rfl, hw⟩
    rw [hw, hd]
    clear hw wq
    go_wp2
    go_ret
    exact ⟨rfl, Below.refl _ _⟩

end Go.Proofs.Ytoldlbefddhhbaa
