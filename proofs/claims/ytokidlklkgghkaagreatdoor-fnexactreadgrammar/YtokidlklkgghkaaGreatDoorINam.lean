/- The sums of chapter 2: the plain mathematics, with no program in it: a step is one-to-one, so that a turned byte gives another sum ever after. -/
/- What is written of a grammar (pure): how long, and that it can be read in one way alone. -/
/- How great the parts of a right grammar are (pure). -/
/- The program's RuleName. -/
import Derived.Test.YtokidlklkgghkaaGreatDoorEnvGet
import Derived.Test.YtokidlklkgghkaaGreatDoorE16Q
import Derived.Test.YtokidlklkgghkaaGreatDoorGGram
import Derived.Test.YtokidlklkgghkaaGreatDoorGRule
import Derived.Test.YtokidlklkgghkaaGreatDoorSetRead
namespace Go.Proofs.YtokidlklkgghkaaGreatDoor
open Go.RowKit

/-- Half of it, exclusive-or the number where it was odd. -/
def half (x : Nat) : Nat := if x % 2 = 1 then (x / 2) ^^^ 3558460437 else x / 2

theorem half_lt (x : Nat) (h : x < 4294967296) : half x < 4294967296 := by
  unfold half
  split
  · exact Nat.xor_lt_two_pow (n := 32) (by omega) (by decide)
  · omega

/-- So many halves. -/
def halves : Nat → Nat → Nat
  | 0, x => x
  | n + 1, x => halves n (half x)
theorem halves_lt : ∀ (n x : Nat), x < 4294967296 → halves n x < 4294967296
  | 0, _, h => h
  | n + 1, x, h => halves_lt n (half x) (half_lt x h)
theorem halves_snoc : ∀ (n x : Nat), halves (n + 1) x = half (halves n x)
  | 0, _ => rfl
  | n + 1, x => halves_snoc n (half x)

/-- One byte more. -/
def sumStep (s : Nat) (b : UInt8) : Nat := halves 8 (s ^^^ b.toNat)
theorem sumStep_lt (s : Nat) (b : UInt8) (h : s < 4294967296) : sumStep s b < 4294967296 :=
  halves_lt 8 _ (Nat.xor_lt_two_pow (n := 32) (by omega) (by have := b.toNat_lt; omega))

/-- A sum and more bytes. -/
def sumB (s : Nat) (l : List UInt8) : Nat := l.foldl sumStep s
theorem sumB_snoc (s : Nat) (l : List UInt8) (b : UInt8) : sumB s (l ++ [b]) = sumStep (sumB s l) b := by simp [sumB]
theorem sumB_lt : ∀ (l : List UInt8) (s : Nat), s < 4294967296 → sumB s l < 4294967296
  | [], _, h => h
  | b :: l, s, h => sumB_lt l _ (sumStep_lt s b h)

/-- The sum in four bytes, the highest first. -/
def four (x : Nat) : List UInt8 := [UInt8.ofNat (x / 16777216 % 256), UInt8.ofNat (x / 65536 % 256), UInt8.ofNat (x / 256 % 256), UInt8.ofNat (x % 256)]

end Go.Proofs.YtokidlklkgghkaaGreatDoor

namespace Go.Proofs.YtokidlklkgghkaaGreatDoor
open Go.RowKit
set_option linter.unusedVariables false

def argW (e : List NodeD) : List UInt8 := shortW (str (exprT e))
def symW (s : SymD) : List UInt8 := byteW s.kind :: (shortW s.text ++ (shortW s.bind ++ listW argW s.args))
def altW (a : List SymD) : List UInt8 := listW symW a
def ruleW (r : RuleD) : List UInt8 := shortW r.name ++ (listW shortW r.params ++ listW altW r.alts)
def gramW (g : List RuleD) : List UInt8 := listW ruleW g
def sealW (l : List UInt8) : List UInt8 := l ++ four (sumB 4294967295 l)
/-- Whether a grammar has a text, and which. -/
def gramO (g : List RuleD) : Bool := gramB g && decide ((gramW g).length + 4 ≤ 20000)
def gramT (g : List RuleD) : List UInt8 := if gramO g = true then sealW (gramW g) else []

def SymK (s : SymD) : Prop := (1 ≤ s.kind ∧ s.kind ≤ 4) ∧ ∀ e ∈ s.args, exprB e = true
theorem symB_k {x : SymD} {kn : List ByteArray} {p : Int} (h : (symB x kn p).2 = true) : SymK x := by
  unfold symB at h
  split at h
  · rename_i h1
    simp only [Bool.and_eq_true, decide_eq_true_eq] at h
    refine ⟨by omega, fun e he => ?_⟩
    rw [List.length_eq_zero_iff.1 h.1.2] at he
    cases he
  · split at h
    · rename_i h2
      simp only [Bool.and_eq_true, decide_eq_true_eq] at h
      refine ⟨by omega, fun e he => ?_⟩
      rw [List.length_eq_zero_iff.1 h.1.2] at he
      cases he
    · split at h
      · rename_i h4
        simp only [Bool.and_eq_true, decide_eq_true_eq] at h
        refine ⟨by omega, fun e he => ?_⟩
        have := List.all_eq_true.1 h.2 e he
        rw [knownB, Bool.and_eq_true] at this
        exact this.2
      · split at h
        · rename_i h3
          split at h
          · rename_i h5
            simp only [Bool.and_eq_true, decide_eq_true_eq] at h5
            refine ⟨by omega, fun e he => ?_⟩
            have := List.all_eq_true.1 h5.2 e he
            rw [knownB, Bool.and_eq_true] at this
            exact this.2
          · cases h
        · cases h
theorem symsF_k (g : List RuleD) : ∀ (xs : List SymD) (kn : List ByteArray), symsF g kn xs = true → ∀ s ∈ xs, SymK s
  | [], _, _, s, hs => by cases hs
  | x :: xs, kn, h, s, hs => by
    rw [symsF, Bool.and_eq_true] at h
    rcases List.mem_cons.1 hs with rfl | hs
    · exact symB_k h.1
    · exact symsF_k g xs _ h.2 s hs
def RuleK (r : RuleD) : Prop := ∀ a ∈ r.alts, ∀ s ∈ a, SymK s
theorem gram_k {g : List RuleD} (h : gramB g = true) : ∀ r ∈ g, RuleK r := fun r hr a ha => by
  obtain ⟨k, hk, rfl⟩ := List.getElem_of_mem hr
  rw [gramB, Bool.and_eq_true] at h
  have h1 := List.all_eq_true.1 h.2 k (List.mem_range.2 hk)
  rw [gramAt, getR_is g k hk, Bool.and_eq_true] at h1
  have h2 := h1.2
  rw [ruleB, Bool.and_eq_true] at h2
  have h3 := List.all_eq_true.1 h2.2 a ha
  rw [altB, Bool.and_eq_true] at h3
  exact symsF_k g a _ h3.2

theorem argW_pf : Pf argW fun e => exprB e = true := fun x y hx hy r s h => by
  obtain ⟨h1, h2⟩ := shortW_pf _ _ _ _ h
  have h3 := congrArg (fun b : ByteArray => b.data.toList) h1
  simp only [str_list] at h3
  rw [exprT, exprT, if_pos hx, if_pos hy] at h3
  exact ⟨exprW_inj hx hy h3, h2⟩
theorem symW_pf : Pf symW SymK := fun x y hx hy r s h => by
  rw [symW, symW, List.cons_append, List.cons_append, List.cons.injEq, List.append_assoc, List.append_assoc, List.append_assoc, List.append_assoc] at h
  obtain ⟨h0, h1⟩ := h
  have e0 := byteW_inj (by have := hx.1; omega) (by have := hy.1; omega) h0
  obtain ⟨e1, h2⟩ := shortW_pf _ _ _ _ h1
  obtain ⟨e2, h3⟩ := shortW_pf _ _ _ _ h2
  obtain ⟨e3, h4⟩ := listW_pf argW_pf _ _ hx.2 hy.2 _ _ h3
  refine ⟨?_, h4⟩
  cases x; cases y
  simp only at *
  subst_vars
  rfl
theorem ruleW_pf : Pf ruleW RuleK := fun x y hx hy r s h => by
  rw [ruleW, ruleW, List.append_assoc, List.append_assoc, List.append_assoc, List.append_assoc] at h
  obtain ⟨e1, h2⟩ := shortW_pf _ _ _ _ h
  obtain ⟨e2, h3⟩ := listW_pf (P := fun _ => True) (fun a b _ _ r s h => shortW_pf a b r s h) _ _ (fun _ _ => trivial) (fun _ _ => trivial) _ _ h2
  obtain ⟨e3, h4⟩ := listW_pf (listW_pf symW_pf) _ _ hx hy _ _ h3
  refine ⟨?_, h4⟩
  cases x; cases y
  simp only at *
  subst_vars
  rfl
theorem gramW_inj {x y : List RuleD} (hx : gramB x = true) (hy : gramB y = true) (h : gramW x = gramW y) : x = y :=
  (listW_pf ruleW_pf x y (gram_k hx) (gram_k hy) [] [] (by rw [List.append_nil, List.append_nil]; exact h)).1
theorem four_len16 (x : Nat) : (four x).length = 4 := rfl
theorem sealW_inj {l m : List UInt8} (h : sealW l = sealW m) : l = m := by
  unfold sealW at h
  exact (List.append_inj' h (by rw [four_len16, four_len16])).1
theorem gramO_b {g : List RuleD} (h : gramO g = true) : gramB g = true := by rw [gramO, Bool.and_eq_true] at h; exact h.1
theorem gramT_inj {x y : List RuleD} (hx : gramO x = true) (hy : gramO y = true) (h : gramT x = gramT y) : x = y := by
  rw [gramT, gramT, if_pos hx, if_pos hy] at h
  exact gramW_inj (gramO_b hx) (gramO_b hy) (sealW_inj h)

theorem shortW_le (s : ByteArray) : (shortW s).length ≤ 2 * s.size + 1 := by
  have := varB_len s.size
  rw [shortW, List.length_append]
  simp
  omega
theorem flatM_le {α : Type} {f : α → List UInt8} {t : α → Nat} {c d : Nat} : ∀ xs : List α, (∀ x ∈ xs, (f x).length ≤ c * t x + d) → ((xs.map f).flatten).length ≤ c * (xs.map t).sum + d * xs.length
  | [], _ => by simp
  | x :: xs, h => by
    have h1 := flatM_le xs fun y hy => h y (List.mem_cons_of_mem _ hy)
    have h2 := h x (List.mem_cons_self ..)
    rw [List.map_cons, List.flatten_cons, List.length_append, List.map_cons, List.sum_cons, List.length_cons, Nat.mul_add, Nat.mul_add]
    omega
theorem listW_le {α : Type} {f : α → List UInt8} {t : α → Nat} {c d : Nat} (hd : d + 1 ≤ c) {xs : List α} (h : ∀ x ∈ xs, (f x).length ≤ c * t x + d) : (listW f xs).length ≤ c * rowTot t xs + 1 := by
  have h1 := flatM_le xs h
  have h2 := varB_len xs.length
  rw [listW, List.length_append, rowTot, Nat.mul_add]
  have h3 : d * xs.length + xs.length ≤ c * xs.length := by
    have := Nat.mul_le_mul_right xs.length hd
    rw [Nat.add_mul, Nat.one_mul] at this
    exact this
  omega
theorem exprT_le (e : List NodeD) : (exprT e).length ≤ 181 := by
  unfold exprT
  split
  · rename_i h; exact (exprW_len h).2
  · simp
theorem argW_le (e : List NodeD) : (argW e).length ≤ 363 := by
  have h1 := shortW_le (str (exprT e))
  rw [str_size] at h1
  have := exprT_le e
  rw [argW]
  omega
theorem symW_le (s : SymD) : (symW s).length ≤ 400 * symTot s + 4 := by
  have h1 := shortW_le s.text
  have h2 := shortW_le s.bind
  have h3 := listW_le (f := argW) (t := exprTot) (c := 400) (d := 363) (by omega) (xs := s.args) fun x _ => by have := argW_le x; omega
  rw [symW, List.length_cons, List.length_append, List.length_append]
  unfold symTot
  omega
theorem altW_le (a : List SymD) : (altW a).length ≤ 400 * altTot a + 1 := listW_le (by omega) fun x _ => symW_le x
theorem ruleW_le (r : RuleD) : (ruleW r).length ≤ 400 * ruleTot r + 3 := by
  have h1 := shortW_le r.name
  have h2 := listW_le (f := shortW) (t := ByteArray.size) (c := 400) (d := 1) (by omega) (xs := r.params) fun x _ => by have := shortW_le x; omega
  have h3 := listW_le (f := altW) (t := altTot) (c := 400) (d := 1) (by omega) (xs := r.alts) fun x _ => altW_le x
  rw [ruleW, List.length_append, List.length_append]
  unfold ruleTot
  omega
theorem gramW_le (g : List RuleD) : (gramW g).length ≤ 400 * grammarTot g + 1 := listW_le (by omega) fun x _ => ruleW_le x
theorem listW_next {α : Type} (f : α → List UInt8) (xs : List α) (k : Nat) (h : k < xs.length) : varB xs.length ++ ((xs.take (k + 1)).map f).flatten = (varB xs.length ++ ((xs.take k).map f).flatten) ++ f xs[k] := by
  rw [flat_next f xs k h, List.append_assoc]
theorem flat_take_le {α : Type} (f : α → List UInt8) (xs : List α) (k : Nat) : (varB xs.length ++ ((xs.take k).map f).flatten).length ≤ (listW f xs).length := by
  have e : xs = xs.take k ++ xs.drop k := (List.take_append_drop k xs).symm
  have h : ((xs.map f).flatten).length = (((xs.take k).map f).flatten).length + (((xs.drop k).map f).flatten).length := by
    conv => lhs; rw [e]
    rw [List.map_append, List.flatten_append, List.length_append]
  rw [listW, List.length_append, List.length_append]
  omega

end Go.Proofs.YtokidlklkgghkaaGreatDoor

namespace Go.Proofs.YtokidlklkgghkaaGreatDoor
open Go.RowKit
set_option linter.unusedVariables false

/-- A sym that may be written. -/
structure SymZ (s : SymD) : Prop where
  k : SymK s
  text : s.text.size ≤ 100
  bind : s.bind.size ≤ 100
def AltZ (a : List SymD) : Prop := ∀ s ∈ a, SymZ s
structure RuleZ (r : RuleD) : Prop where
  name : r.name.size ≤ 100
  params : ∀ p ∈ r.params, p.size ≤ 100
  alts : ∀ a ∈ r.alts, AltZ a
theorem atF_at (nm : ByteArray) : ∀ (i : Nat) (rs : List RuleD), 0 ≤ atF nm i rs → ∃ r ∈ rs, r.name = nm
  | i, [], h => by simp [atF] at h
  | i, r :: rs, h => by
    rw [atF] at h
    split at h
    · rename_i e; exact ⟨r, List.mem_cons_self .., e⟩
    · obtain ⟨q, hq, e⟩ := atF_at nm (i + 1) rs h
      exact ⟨q, List.mem_cons_of_mem _ hq, e⟩
theorem symB_z {g : List RuleD} (hg : ∀ r ∈ g, r.name.size ≤ 6) {x : SymD} {kn : List ByteArray} (h : (symB x kn (paramsOf g x.text)).2 = true) : SymZ x := by
  refine ⟨symB_k h, ?_, ?_⟩
  · unfold symB at h
    split at h
    · simp only [Bool.and_eq_true, decide_eq_true_eq] at h
      have h1 := h.1.1
      rw [text6, Bool.and_eq_true, decide_eq_true_eq] at h1
      omega
    · split at h
      · simp only [Bool.and_eq_true, decide_eq_true_eq] at h
        have h1 := h.1.1
        rw [okL, Bool.and_eq_true, Bool.and_eq_true, decide_eq_true_eq, decide_eq_true_eq] at h1
        have h2 := h1.2.2
        have h3 : x.text.data.toList.length = x.text.size := by simp
        omega
      · split at h
        · simp only [Bool.and_eq_true, decide_eq_true_eq] at h
          rw [h.1.1.1]
          decide
        · split at h
          · split at h
            · rename_i h5
              simp only [Bool.and_eq_true, decide_eq_true_eq] at h5
              have h6 := h5.1
              unfold paramsOf at h6
              split at h6
              · rename_i h7
                obtain ⟨r, hr, e⟩ := atF_at x.text 0 g h7
                have := hg r hr
                rw [← e]
                omega
              · omega
            · cases h
          · cases h
  · unfold symB at h
    have em : ∀ {s : ByteArray}, s = noS → s.size ≤ 100 := fun e => by rw [e]; decide
    split at h
    · simp only [Bool.and_eq_true, decide_eq_true_eq] at h
      exact em h.2
    · split at h
      · simp only [Bool.and_eq_true, decide_eq_true_eq] at h
        exact em h.2
      · split at h
        · simp only [Bool.and_eq_true, decide_eq_true_eq] at h
          exact em h.1.1.2
        · split at h
          · split at h
            · split at h
              · rename_i h8; exact em h8
              · simp only [Bool.and_eq_true, decide_eq_true_eq] at h
                have h1 := h.1.1
                rw [nameB, Bool.and_eq_true, decide_eq_true_eq] at h1
                omega
            · cases h
          · cases h
theorem symsF_z {g : List RuleD} (hg : ∀ r ∈ g, r.name.size ≤ 6) : ∀ (xs : List SymD) (kn : List ByteArray), symsF g kn xs = true → ∀ s ∈ xs, SymZ s
  | [], _, _, s, hs => by cases hs
  | x :: xs, kn, h, s, hs => by
    rw [symsF, Bool.and_eq_true] at h
    rcases List.mem_cons.1 hs with rfl | hs
    · exact symB_z hg h.1
    · exact symsF_z hg xs _ h.2 s hs
theorem gram_rule {g : List RuleD} (h : gramB g = true) : ∀ r ∈ g, ruleB g r = true := fun r hr => by
  obtain ⟨k, hk, rfl⟩ := List.getElem_of_mem hr
  rw [gramB, Bool.and_eq_true] at h
  have h1 := List.all_eq_true.1 h.2 k (List.mem_range.2 hk)
  rw [gramAt, getR_is g k hk, Bool.and_eq_true] at h1
  exact h1.2
theorem gram_z {g : List RuleD} (h : gramB g = true) : ∀ r ∈ g, RuleZ r := fun r hr => by
  have hn : ∀ r ∈ g, r.name.size ≤ 6 := fun r hr => by
    have h2 := gram_rule h r hr
    simp only [ruleB, Bool.and_eq_true] at h2
    have h3 := h2.1.1.1
    rw [ruleNameB, Bool.and_eq_true, decide_eq_true_eq] at h3
    omega
  have h2 := gram_rule h r hr
  rw [ruleB, Bool.and_eq_true] at h2
  refine ⟨by have := hn r hr; omega, fun p hp => ?_, fun a ha => ?_⟩
  · simp only [Bool.and_eq_true] at h2
    have h3 := h2.1.1.2
    rw [paramsB, Bool.and_eq_true] at h3
    obtain ⟨k, hk, rfl⟩ := List.getElem_of_mem hp
    have h4 := List.all_eq_true.1 h3.1 k (List.mem_range.2 hk)
    rw [parAt_of _ k hk, Bool.and_eq_true] at h4
    have h5 := h4.1
    rw [nameB, Bool.and_eq_true, decide_eq_true_eq] at h5
    omega
  · have h3 := List.all_eq_true.1 h2.2 a ha
    rw [altB, Bool.and_eq_true] at h3
    exact symsF_z hn a _ h3.2

end Go.Proofs.YtokidlklkgghkaaGreatDoor

namespace Go.Proofs.YtokidlklkgghkaaGreatDoor
open Go.RowKit

def greatB (b : Nat) : Bool := decide (65 ≤ b) && decide (b ≤ 90)
theorem great_any (b : Nat) (w : World) :
    Calls Tryz.prog 118 #[.int .u8 b] w fun e w' => e = .returned (.bool (greatB b)) ∧ w' = w := by
  by_cases h1 : 65 ≤ b
  · by_cases h2 : b ≤ 90
    · have HV : Hid (greatB b = true) := by simp [Hid, greatB, h1, h2]
      have e90 : decide ((b : Int) ≤ 90) = true := by rw [decide_eq_true]; omega
      go_enter Tryz.func118, Tryz.ntmps118
      go_wp2
      go_ret
      rw [HV.out]
      exact ⟨rfl, rfl⟩
    · have HV : Hid (greatB b = false) := by simp [Hid, greatB, h2]
      have e90 : decide ((b : Int) ≤ 90) = false := by rw [decide_eq_false]; omega
      go_enter Tryz.func118, Tryz.ntmps118
      go_wp2
      go_ret
      rw [HV.out]
      exact ⟨rfl, rfl⟩
  · have HV : Hid (greatB b = false) := by simp [Hid, greatB, h1]
    have h2 : b < 65 := by omega
    go_enter Tryz.func118, Tryz.ntmps118
    go_wp2
    go_ret
    rw [HV.out]
    exact ⟨rfl, rfl⟩

theorem rnC_of (i b : Nat) : rnC i b = (decide (kindP b = 2) || greatB b || (decide (0 < i) && decide (kindP b = 1))) := by
  unfold rnC kindP greatB
  by_cases h1 : 48 ≤ b ∧ b ≤ 57
  · rw [if_pos h1, Bool.eq_iff_iff]; simp; omega
  · rw [if_neg h1]
    by_cases h2 : 97 ≤ b ∧ b ≤ 122
    · rw [if_pos h2, Bool.eq_iff_iff]; simp; omega
    · rw [if_neg h2, Bool.eq_iff_iff]; simp; omega
theorem kindP_of (b : Nat) : kindP b = 0 ∨ kindP b = 1 ∨ kindP b = 2 := by
  unfold kindP; split
  · exact .inr (.inl rfl)
  · split
    · exact .inr (.inr rfl)
    · exact .inl rfl

set_option maxHeartbeats 1600000 in
set_option maxRecDepth 100000 in
theorem implRuleName_any (s : ByteArray) (w : World) (hs : s.size ≤ 1048576) :
    Calls Tryz.prog 102 #[.string s] w fun e w' => e = .returned (.bool (ruleNameB s)) ∧ w' = w := by
  have HB : Hid (ruleNameB s = (rnTo s s.size && decide ((1 : Int) ≤ s.size ∧ (s.size : Int) ≤ 6))) := rfl
  by_cases h1 : s.size < 1
  · have HV : Hid (ruleNameB s = false) := by rw [Hid, HB.out]; simp; omega
    go_enter Tryz.func102, Tryz.ntmps102
    go_wp2
    go_ret
    rw [HV.out]
    exact ⟨rfl, rfl⟩
  by_cases h6 : 6 < s.size
  · have HV : Hid (ruleNameB s = false) := by rw [Hid, HB.out]; simp; omega
    go_enter Tryz.func102, Tryz.ntmps102
    go_wp2
    go_ret
    rw [HV.out]
    exact ⟨rfl, rfl⟩
  have h0 : 0 < s.size := by omega
  have HL : Hid (ruleNameB s = rnTo s s.size) := by rw [Hid, HB.out]; simp; omega
  have HNo : Hid (∀ k (h : k < s.size), rnC k s[k].toNat = false → ruleNameB s = false) := fun k hk h => by rw [HL.out, rnTo_no s k hk h]
  have hu0 := s[0].toNat_lt
  by_cases hf : kindP s[0].toNat = 1
  · have HV : Hid (ruleNameB s = false) := HNo.out 0 h0 (by
      rw [rnC_of, hf]
      have : greatB s[0].toNat = false := by
        unfold kindP at hf
        split at hf
        · unfold greatB; simp; omega
        · split at hf <;> cases hf
      rw [this]; rfl)
    have HK : Hid (∀ W, Calls Tryz.prog 117 #[.int .u8 s[0].toNat] W fun e w' => e = .returned (.int .i64 1) ∧ w' = W) := fun W => by
      have := kind_any s[0].toNat (by omega) W
      rwa [hf] at this
    clear hf
    go_enter Tryz.func102, Tryz.ntmps102
    go_wp2_with (go_at_call 117; refine (HK.out _).mono ?_; rintro e wq ⟨rfl, hw⟩; rw [hw]; clear hw)
    go_ret
    rw [HV.out]
    exact ⟨rfl, rfl⟩
  obtain ⟨q0, hq0⟩ : ∃ q : Int, q = kindP s[0].toNat := ⟨_, rfl⟩
  have HK : Hid (∀ W, Calls Tryz.prog 117 #[.int .u8 s[0].toNat] W fun e w' => e = .returned (.int .i64 q0) ∧ w' = W) := fun W => by
    have := kind_any s[0].toNat (by omega) W
    rwa [← hq0] at this
  have hq1 : ¬ q0 = 1 := by rw [hq0]; exact hf
  have HQ : Hid (q0 = kindP s[0].toNat) := hq0
  clear hf hq0
  have d1 : decide ((s.size : Int) < 1) = false := by rw [decide_eq_false]; omega
  have d2 : decide ((6 : Int) < (s.size : Int)) = false := by rw [decide_eq_false]; omega
  have d3 : (q0 == 1) = false := by simpa using hq1
  go_enter Tryz.func102, Tryz.ntmps102
  go_wp2_with (go_at_call 117; refine (HK.out _).mono ?_; rintro e wq ⟨rfl, hw⟩; rw [hw]; clear hw)
  go_loopw [20] (fun iv wr => ∃ k : Nat, iv = .int .i64 k ∧ k ≤ s.size ∧ rnTo s k = true ∧ wr = w) (fun iv _ => s.size - (intOf iv).toNat)
  case atStart => exact ⟨0, rfl, Nat.zero_le _, rfl, rfl⟩
  case round =>
    obtain ⟨k, rfl, hk, hto, hwr⟩ := hrel
    rw [hwr]
    clear hwr
    have HTo : Hid (rnTo s k = true) := hto
    clear hto
    by_cases hlt : k < s.size
    · have hu := s[k].toNat_lt
      have HNx : Hid (_ = _) := rnTo_next s k hlt
      have i4 : (k : Int) < (s.size : Int) := by omega
      have HKk : Hid (∀ W, _) := fun W => kind_any s[k].toNat (by omega) W
      by_cases hz : kindP s[k].toNat = 0
      · rw [hz] at HKk
        have HG : Hid (∀ W, _) := fun W => great_any s[k].toNat W
        cases hg : greatB s[k].toNat with
        | true =>
          rw [hg] at HG
          have HY : Hid (rnC k s[k].toNat = true) := by rw [Hid, rnC_of, hg]; simp
          clear hz hg
          go_wp2_with (first
            | (go_at_call 117; refine (HKk.out _).mono ?_; rintro e wq ⟨rfl, hw⟩; rw [hw]; clear hw)
            | (go_at_call 118; refine (HG.out _).mono ?_; rintro e wq ⟨rfl, hw⟩; rw [hw]; clear hw))
          go_roundw
          case rel => exact ⟨k + 1, by go_num, by omega, by rw [HNx.out, HTo.out, HY.out]; rfl, (by first | rfl | trivial)⟩
          case measure => simp [intOf]; omega
        | false =>
          rw [hg] at HG
          have HV : Hid (ruleNameB s = false) := HNo.out k hlt (by rw [rnC_of, hg, hz]; simp)
          clear hz hg
          go_wp2_with (first
            | (go_at_call 117; refine (HKk.out _).mono ?_; rintro e wq ⟨rfl, hw⟩; rw [hw]; clear hw)
            | (go_at_call 118; refine (HG.out _).mono ?_; rintro e wq ⟨rfl, hw⟩; rw [hw]; clear hw))
          go_ret
          rw [HV.out]
          exact ⟨rfl, rfl⟩
      · have HY : Hid (rnC k s[k].toNat = true) := by
          rw [Hid, rnC_of]
          rcases kindP_of s[k].toNat with h | h | h
          · exact absurd h hz
          · by_cases hk0 : k = 0
            · subst hk0
              exact absurd (HQ.out.trans h) hq1
            · have : 0 < k := by omega
              simp [h, this]
          · simp [h]
        obtain ⟨q, hq⟩ : ∃ q : Int, q = kindP s[k].toNat := ⟨_, rfl⟩
        rw [← hq] at HKk hz
        clear hq
        go_wp2_with (go_at_call 117; refine (HKk.out _).mono ?_; rintro e wq ⟨rfl, hw⟩; rw [hw]; clear hw)
        go_roundw
        case rel => exact ⟨k + 1, by go_num, by omega, by rw [HNx.out, HTo.out, HY.out]; rfl, (by first | rfl | trivial)⟩
        case measure => simp [intOf]; omega
    · obtain rfl : k = s.size := by omega
      have HV : Hid (ruleNameB s = true) := by rw [Hid, HL.out, HTo.out]
      go_wp2
      go_ret
      rw [HV.out]
      exact ⟨rfl, rfl⟩

end Go.Proofs.YtokidlklkgghkaaGreatDoor
