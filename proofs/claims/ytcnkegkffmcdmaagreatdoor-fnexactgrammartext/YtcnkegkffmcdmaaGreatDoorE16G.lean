/- The sums of chapter 2: the plain mathematics, with no program in it: a step is one-to-one, so that a turned byte gives another sum ever after. -/
/- What is written of a grammar (pure): how long, and that it can be read in one way alone. -/
import Derived.Test.YtcnkegkffmcdmaaGreatDoorVRow
import Derived.Test.YtcnkegkffmcdmaaGreatDoorE16Q
import Derived.Test.YtcnkegkffmcdmaaGreatDoorGGram
namespace Go.Proofs.YtcnkegkffmcdmaaGreatDoor
open Go.RowKit

/-- Half of it, exclusive-or the number where it was odd. -/
def half (x : Nat) : Nat := if x % 2 = 1 then (x / 2) ^^^ 3558460437 else x / 2

theorem half_lt (x : Nat) (h : x < 4294967296) : half x < 4294967296 := by
  unfold half
  split
  · exact Nat.xor_lt_two_pow (n := 32) (by omega) (by decide)
  · omega

theorem xor_cancel {a b c : Nat} (h : a ^^^ c = b ^^^ c) : a = b := by
  have := congrArg (· ^^^ c) h
  simpa [Nat.xor_assoc] using this

theorem half_top (x : Nat) (h : x < 4294967296) : (half x).testBit 31 = decide (x % 2 = 1) := by
  unfold half
  have hb : (x / 2).testBit 31 = false := Nat.testBit_lt_two_pow (by omega)
  by_cases h1 : x % 2 = 1
  · rw [if_pos h1, Nat.testBit_xor, hb]
    simp [h1]
    decide
  · rw [if_neg h1, hb]
    simp [h1]

theorem half_inj {x y : Nat} (hx : x < 4294967296) (hy : y < 4294967296) (h : half x = half y) : x = y := by
  have t : decide (x % 2 = 1) = decide (y % 2 = 1) := by rw [← half_top x hx, ← half_top y hy, h]
  unfold half at h
  by_cases h1 : x % 2 = 1
  · have h2 : y % 2 = 1 := by simpa [h1] using t
    rw [if_pos h1, if_pos h2] at h
    have := xor_cancel h
    omega
  · have h2 : ¬ y % 2 = 1 := by simpa [h1] using t
    rw [if_neg h1, if_neg h2] at h
    omega

/-- So many halves. -/
def halves : Nat → Nat → Nat
  | 0, x => x
  | n + 1, x => halves n (half x)
theorem halves_lt : ∀ (n x : Nat), x < 4294967296 → halves n x < 4294967296
  | 0, _, h => h
  | n + 1, x, h => halves_lt n (half x) (half_lt x h)
theorem halves_inj : ∀ (n x y : Nat), x < 4294967296 → y < 4294967296 → halves n x = halves n y → x = y
  | 0, _, _, _, _, h => h
  | n + 1, x, y, hx, hy, h => half_inj hx hy (halves_inj n _ _ (half_lt x hx) (half_lt y hy) h)
theorem halves_snoc : ∀ (n x : Nat), halves (n + 1) x = half (halves n x)
  | 0, _ => rfl
  | n + 1, x => halves_snoc n (half x)

/-- One byte more. -/
def sumStep (s : Nat) (b : UInt8) : Nat := halves 8 (s ^^^ b.toNat)
theorem sumStep_lt (s : Nat) (b : UInt8) (h : s < 4294967296) : sumStep s b < 4294967296 :=
  halves_lt 8 _ (Nat.xor_lt_two_pow (n := 32) (by omega) (by have := b.toNat_lt; omega))
theorem sumStep_inj {s t : Nat} (b : UInt8) (hs : s < 4294967296) (ht : t < 4294967296) (h : sumStep s b = sumStep t b) : s = t := by
  have hb := b.toNat_lt
  exact xor_cancel (halves_inj 8 _ _ (Nat.xor_lt_two_pow (n := 32) (by omega) (by omega)) (Nat.xor_lt_two_pow (n := 32) (by omega) (by omega)) h)
theorem sumStep_byte {s : Nat} {b c : UInt8} (hs : s < 4294967296) (h : sumStep s b = sumStep s c) : b = c := by
  have hb := b.toNat_lt
  have hc := c.toNat_lt
  have e := halves_inj 8 _ _ (Nat.xor_lt_two_pow (n := 32) (by omega) (by omega)) (Nat.xor_lt_two_pow (n := 32) (by omega) (by omega)) h
  rw [Nat.xor_comm s, Nat.xor_comm s] at e
  exact UInt8.toNat_inj.1 (xor_cancel e)

/-- A sum and more bytes. -/
def sumB (s : Nat) (l : List UInt8) : Nat := l.foldl sumStep s
theorem sumB_snoc (s : Nat) (l : List UInt8) (b : UInt8) : sumB s (l ++ [b]) = sumStep (sumB s l) b := by simp [sumB]
theorem sumB_app (s : Nat) (l m : List UInt8) : sumB s (l ++ m) = sumB (sumB s l) m := by simp [sumB]
theorem sumB_lt : ∀ (l : List UInt8) (s : Nat), s < 4294967296 → sumB s l < 4294967296
  | [], _, h => h
  | b :: l, s, h => sumB_lt l _ (sumStep_lt s b h)
theorem sumB_inj : ∀ (l : List UInt8) (s t : Nat), s < 4294967296 → t < 4294967296 → sumB s l = sumB t l → s = t
  | [], _, _, _, _, h => h
  | b :: l, s, t, hs, ht, h => sumStep_inj b hs ht (sumB_inj l _ _ (sumStep_lt s b hs) (sumStep_lt t b ht) h)

/-- A turned byte gives another sum. -/
theorem sumB_turned (s : Nat) (p r : List UInt8) (b c : UInt8) (hs : s < 4294967296) (hbc : b ≠ c) : sumB s (p ++ b :: r) ≠ sumB s (p ++ c :: r) := by
  intro h
  rw [sumB_app, sumB_app] at h
  have hp := sumB_lt p s hs
  exact hbc (sumStep_byte hp (sumB_inj r _ _ (sumStep_lt _ b hp) (sumStep_lt _ c hp) h))

/-- The sum in four bytes, the highest first. -/
def four (x : Nat) : List UInt8 := [UInt8.ofNat (x / 16777216 % 256), UInt8.ofNat (x / 65536 % 256), UInt8.ofNat (x / 256 % 256), UInt8.ofNat (x % 256)]
theorem four_inj {x y : Nat} (hx : x < 4294967296) (hy : y < 4294967296) (h : four x = four y) : x = y := by
  simp only [four, List.cons.injEq, and_true] at h
  obtain ⟨h1, h2, h3, h4⟩ := h
  have e : ∀ a b : Nat, a < 256 → b < 256 → UInt8.ofNat a = UInt8.ofNat b → a = b := fun a b ha hb hab => by
    have := congrArg UInt8.toNat hab
    rwa [toNat_ofNat a ha, toNat_ofNat b hb] at this
  have k1 := e _ _ (by omega) (by omega) h1
  have k2 := e _ _ (by omega) (by omega) h2
  have k3 := e _ _ (by omega) (by omega) h3
  have k4 := e _ _ (by omega) (by omega) h4
  omega

end Go.Proofs.YtcnkegkffmcdmaaGreatDoor

namespace Go.Proofs.YtcnkegkffmcdmaaGreatDoor
open Go.RowKit
set_option linter.unusedVariables false

def argW (e : List NodeD) : List UInt8 := shortW (str (exprT e))
def symW (s : SymD) : List UInt8 := byteW s.kind :: (shortW s.text ++ (shortW s.bind ++ listW argW s.args))
def altW (a : List SymD) : List UInt8 := listW symW a
def ruleW (r : RuleD) : List UInt8 := shortW r.name ++ (listW shortW r.params ++ listW altW r.alts)
def gramW (g : List RuleD) : List UInt8 := listW ruleW g
def sealW (l : List UInt8) : List UInt8 := l ++ four (sumB 4294967295 l)
/-- Whether a grammar has a text, and which. -/
def gramO (g : List RuleD) : Bool := gramB g && decide ((gramW g).length + 4 ≤ 20000)
def gramT (g : List RuleD) : List UInt8 := if gramO g = true then sealW (gramW g) else []

def SymK (s : SymD) : Prop := (1 ≤ s.kind ∧ s.kind ≤ 4) ∧ ∀ e ∈ s.args, exprB e = true
theorem symB_k {x : SymD} {kn : List ByteArray} {p : Int} (h : (symB x kn p).2 = true) : SymK x := by
  unfold symB at h
  split at h
  · rename_i h1
    simp only [Bool.and_eq_true, decide_eq_true_eq] at h
    refine ⟨by omega, fun e he => ?_⟩
    rw [List.length_eq_zero_iff.1 h.1.2] at he
    cases he
  · split at h
    · rename_i h2
      simp only [Bool.and_eq_true, decide_eq_true_eq] at h
      refine ⟨by omega, fun e he => ?_⟩
      rw [List.length_eq_zero_iff.1 h.1.2] at he
      cases he
    · split at h
      · rename_i h4
        simp only [Bool.and_eq_true, decide_eq_true_eq] at h
        refine ⟨by omega, fun e he => ?_⟩
        have := List.all_eq_true.1 h.2 e he
        rw [knownB, Bool.and_eq_true] at this
        exact this.2
      · split at h
        · rename_i h3
          split at h
          · rename_i h5
            simp only [Bool.and_eq_true, decide_eq_true_eq] at h5
            refine ⟨by omega, fun e he => ?_⟩
            have := List.all_eq_true.1 h5.2 e he
            rw [knownB, Bool.and_eq_true] at this
            exact this.2
          · cases h
        · cases h
theorem symsF_k (g : List RuleD) : ∀ (xs : List SymD) (kn : List ByteArray), symsF g kn xs = true → ∀ s ∈ xs, SymK s
  | [], _, _, s, hs => by cases hs
  | x :: xs, kn, h, s, hs => by
    rw [symsF, Bool.and_eq_true] at h
    rcases List.mem_cons.1 hs with rfl | hs
    · exact symB_k h.1
    · exact symsF_k g xs _ h.2 s hs
def RuleK (r : RuleD) : Prop := ∀ a ∈ r.alts, ∀ s ∈ a, SymK s
theorem gram_k {g : List RuleD} (h : gramB g = true) : ∀ r ∈ g, RuleK r := fun r hr a ha => by
  obtain ⟨k, hk, rfl⟩ := List.getElem_of_mem hr
  rw [gramB, Bool.and_eq_true] at h
  have h1 := List.all_eq_true.1 h.2 k (List.mem_range.2 hk)
  rw [gramAt, getR_is g k hk, Bool.and_eq_true] at h1
  have h2 := h1.2
  rw [ruleB, Bool.and_eq_true] at h2
  have h3 := List.all_eq_true.1 h2.2 a ha
  rw [altB, Bool.and_eq_true] at h3
  exact symsF_k g a _ h3.2

theorem argW_pf : Pf argW fun e => exprB e = true := fun x y hx hy r s h => by
  obtain ⟨h1, h2⟩ := shortW_pf _ _ _ _ h
  have h3 := congrArg (fun b : ByteArray => b.data.toList) h1
  simp only [str_list] at h3
  rw [exprT, exprT, if_pos hx, if_pos hy] at h3
  exact ⟨exprW_inj hx hy h3, h2⟩
theorem symW_pf : Pf symW SymK := fun x y hx hy r s h => by
  rw [symW, symW, List.cons_append, List.cons_append, List.cons.injEq, List.append_assoc, List.append_assoc, List.append_assoc, List.append_assoc] at h
  obtain ⟨h0, h1⟩ := h
  have e0 := byteW_inj (by have := hx.1; omega) (by have := hy.1; omega) h0
  obtain ⟨e1, h2⟩ := shortW_pf _ _ _ _ h1
  obtain ⟨e2, h3⟩ := shortW_pf _ _ _ _ h2
  obtain ⟨e3, h4⟩ := listW_pf argW_pf _ _ hx.2 hy.2 _ _ h3
  refine ⟨?_, h4⟩
  cases x; cases y
  simp only at *
  subst_vars
  rfl
theorem ruleW_pf : Pf ruleW RuleK := fun x y hx hy r s h => by
  rw [ruleW, ruleW, List.append_assoc, List.append_assoc, List.append_assoc, List.append_assoc] at h
  obtain ⟨e1, h2⟩ := shortW_pf _ _ _ _ h
  obtain ⟨e2, h3⟩ := listW_pf (P := fun _ => True) (fun a b _ _ r s h => shortW_pf a b r s h) _ _ (fun _ _ => trivial) (fun _ _ => trivial) _ _ h2
  obtain ⟨e3, h4⟩ := listW_pf (listW_pf symW_pf) _ _ hx hy _ _ h3
  refine ⟨?_, h4⟩
  cases x; cases y
  simp only at *
  subst_vars
  rfl
theorem gramW_inj {x y : List RuleD} (hx : gramB x = true) (hy : gramB y = true) (h : gramW x = gramW y) : x = y :=
  (listW_pf ruleW_pf x y (gram_k hx) (gram_k hy) [] [] (by rw [List.append_nil, List.append_nil]; exact h)).1
theorem four_len16 (x : Nat) : (four x).length = 4 := rfl
theorem sealW_inj {l m : List UInt8} (h : sealW l = sealW m) : l = m := by
  unfold sealW at h
  exact (List.append_inj' h (by rw [four_len16, four_len16])).1
theorem gramO_b {g : List RuleD} (h : gramO g = true) : gramB g = true := by rw [gramO, Bool.and_eq_true] at h; exact h.1
theorem gramT_inj {x y : List RuleD} (hx : gramO x = true) (hy : gramO y = true) (h : gramT x = gramT y) : x = y := by
  rw [gramT, gramT, if_pos hx, if_pos hy] at h
  exact gramW_inj (gramO_b hx) (gramO_b hy) (sealW_inj h)

theorem shortW_le (s : ByteArray) : (shortW s).length ≤ 2 * s.size + 1 := by
  have := varB_len s.size
  rw [shortW, List.length_append]
  simp
  omega
theorem flatM_le {α : Type} {f : α → List UInt8} {t : α → Nat} {c d : Nat} : ∀ xs : List α, (∀ x ∈ xs, (f x).length ≤ c * t x + d) → ((xs.map f).flatten).length ≤ c * (xs.map t).sum + d * xs.length
  | [], _ => by simp
  | x :: xs, h => by
    have h1 := flatM_le xs fun y hy => h y (List.mem_cons_of_mem _ hy)
    have h2 := h x (List.mem_cons_self ..)
    rw [List.map_cons, List.flatten_cons, List.length_append, List.map_cons, List.sum_cons, List.length_cons, Nat.mul_add, Nat.mul_add]
    omega
theorem listW_le {α : Type} {f : α → List UInt8} {t : α → Nat} {c d : Nat} (hd : d + 1 ≤ c) {xs : List α} (h : ∀ x ∈ xs, (f x).length ≤ c * t x + d) : (listW f xs).length ≤ c * rowTot t xs + 1 := by
  have h1 := flatM_le xs h
  have h2 := varB_len xs.length
  rw [listW, List.length_append, rowTot, Nat.mul_add]
  have h3 : d * xs.length + xs.length ≤ c * xs.length := by
    have := Nat.mul_le_mul_right xs.length hd
    rw [Nat.add_mul, Nat.one_mul] at this
    exact this
  omega
theorem exprT_le (e : List NodeD) : (exprT e).length ≤ 181 := by
  unfold exprT
  split
  · rename_i h; exact (exprW_len h).2
  · simp
theorem argW_le (e : List NodeD) : (argW e).length ≤ 363 := by
  have h1 := shortW_le (str (exprT e))
  rw [str_size] at h1
  have := exprT_le e
  rw [argW]
  omega
theorem symW_le (s : SymD) : (symW s).length ≤ 400 * symTot s + 4 := by
  have h1 := shortW_le s.text
  have h2 := shortW_le s.bind
  have h3 := listW_le (f := argW) (t := exprTot) (c := 400) (d := 363) (by omega) (xs := s.args) fun x _ => by have := argW_le x; omega
  rw [symW, List.length_cons, List.length_append, List.length_append]
  unfold symTot
  omega
theorem altW_le (a : List SymD) : (altW a).length ≤ 400 * altTot a + 1 := listW_le (by omega) fun x _ => symW_le x
theorem ruleW_le (r : RuleD) : (ruleW r).length ≤ 400 * ruleTot r + 3 := by
  have h1 := shortW_le r.name
  have h2 := listW_le (f := shortW) (t := ByteArray.size) (c := 400) (d := 1) (by omega) (xs := r.params) fun x _ => by have := shortW_le x; omega
  have h3 := listW_le (f := altW) (t := altTot) (c := 400) (d := 1) (by omega) (xs := r.alts) fun x _ => altW_le x
  rw [ruleW, List.length_append, List.length_append]
  unfold ruleTot
  omega
theorem gramW_le (g : List RuleD) : (gramW g).length ≤ 400 * grammarTot g + 1 := listW_le (by omega) fun x _ => ruleW_le x
theorem listW_next {α : Type} (f : α → List UInt8) (xs : List α) (k : Nat) (h : k < xs.length) : varB xs.length ++ ((xs.take (k + 1)).map f).flatten = (varB xs.length ++ ((xs.take k).map f).flatten) ++ f xs[k] := by
  rw [flat_next f xs k h, List.append_assoc]
theorem flat_take_le {α : Type} (f : α → List UInt8) (xs : List α) (k : Nat) : (varB xs.length ++ ((xs.take k).map f).flatten).length ≤ (listW f xs).length := by
  have e : xs = xs.take k ++ xs.drop k := (List.take_append_drop k xs).symm
  have h : ((xs.map f).flatten).length = (((xs.take k).map f).flatten).length + (((xs.drop k).map f).flatten).length := by
    conv => lhs; rw [e]
    rw [List.map_append, List.flatten_append, List.length_append]
  rw [listW, List.length_append, List.length_append]
  omega

end Go.Proofs.YtcnkegkffmcdmaaGreatDoor
