/- Sets of bytes, with no program: the bytes that a set tells, and the text that is told of it, from the front on; by bytes and by bits. -/
/- The program's kindOf. -/
/- The program's small functions on bytes and bits. -/
/- The program's readSet, SetOk and InSet. -/
import Derived.Test.YtokidlklkgghkaaGreatDoorSetPure
import Derived.Test.YtokidlklkgghkaaGreatDoorRows
import Derived.Test.YtokidlklkgghkaaGreatDoorEnvGet
import Derived.Lib.TrailingZeros
import Derived.Laws.Bits64b
namespace Go.Proofs.YtokidlklkgghkaaGreatDoor

/-- What comes of the first n, one behind the other. -/
def pre (h : Nat → List UInt8) (n : Nat) : List UInt8 := (List.range n).flatMap h
theorem pre_zero (h : Nat → List UInt8) : pre h 0 = [] := rfl
theorem pre_succ (h : Nat → List UInt8) (n : Nat) : pre h (n + 1) = pre h n ++ h n := by simp [pre, List.range_succ]
theorem pre_skip (h : Nat → List UInt8) (p : Nat) : ∀ d, (∀ i, p ≤ i → i < p + d → h i = []) → pre h (p + d) = pre h p
  | 0, _ => rfl
  | d + 1, hz => by
    rw [← Nat.add_assoc, pre_succ, pre_skip h p d (fun i h1 h2 => hz i h1 (by omega)), hz (p + d) (by omega) (by omega), List.append_nil]
theorem pre_skip' (h : Nat → List UInt8) {p k : Nat} (hpk : p ≤ k) (hz : ∀ i, p ≤ i → i < k → h i = []) : pre h k = pre h p := by
  obtain ⟨d, rfl⟩ : ∃ d, k = p + d := ⟨k - p, by omega⟩
  exact pre_skip h p d hz
theorem pre_add (h : Nat → List UInt8) (a : Nat) : ∀ n, pre h (a + n) = pre h a ++ pre (fun i => h (a + i)) n
  | 0 => by simp [pre_zero]
  | n + 1 => by rw [← Nat.add_assoc, pre_succ, pre_add h a n, pre_succ, List.append_assoc]
theorem pre_congr {h g : Nat → List UInt8} : ∀ n, (∀ i, i < n → h i = g i) → pre h n = pre g n
  | 0, _ => rfl
  | n + 1, e => by rw [pre_succ, pre_succ, pre_congr n (fun i hi => e i (by omega)), e n (by omega)]
theorem pre_len {h : Nat → List UInt8} (c : Nat) (hc : ∀ i, (h i).length ≤ c) : ∀ n, (pre h n).length ≤ c * n
  | 0 => Nat.zero_le _
  | n + 1 => by
    rw [pre_succ, List.length_append, Nat.mul_succ]
    have := pre_len c hc n
    have := hc n
    omega
theorem pre_mem {h : Nat → List UInt8} {x : UInt8} : ∀ {n}, x ∈ pre h n ↔ ∃ i, i < n ∧ x ∈ h i := by
  intro n
  simp [pre]

def suf (h : Nat → List UInt8) (n b : Nat) : List UInt8 := pre (fun i => h (b + i)) (n - b)
theorem pre_suf (h : Nat → List UInt8) {n b : Nat} (hb : b ≤ n) : pre h n = pre h b ++ suf h n b := by
  rw [suf, ← pre_add]
  congr 1
  omega
theorem suf_end (h : Nat → List UInt8) (n : Nat) : suf h n n = [] := by rw [suf, Nat.sub_self]; rfl

/-- A byte of a set; and what a byte of a set puts into its text: the middle of a row of three or more puts nothing. -/
def cellB (g : Nat → UInt8) (f : Nat → Bool) (i : Nat) : List UInt8 := if f i then [g i] else []
def cellT (g : Nat → UInt8) (f : Nat → Bool) (i : Nat) : List UInt8 :=
  if f i then (if (decide (0 < i) && f (i - 1)) && f (i + 1) then [] else if f (i + 1) && f (i + 2) then [g i, 45] else [g i]) else []
theorem cellB_len (g : Nat → UInt8) (f : Nat → Bool) (i : Nat) : (cellB g f i).length ≤ 1 := by unfold cellB; split <;> simp
theorem cellT_len (g : Nat → UInt8) (f : Nat → Bool) (i : Nat) : (cellT g f i).length ≤ 2 := by
  unfold cellT
  split
  · split
    · simp
    · split <;> simp
  · simp
theorem cellT_none {g : Nat → UInt8} {f : Nat → Bool} {i : Nat} (h : f i = false) : cellT g f i = [] := by simp [cellT, h]
theorem cellB_none {g : Nat → UInt8} {f : Nat → Bool} {i : Nat} (h : f i = false) : cellB g f i = [] := by simp [cellB, h]
theorem cellB_yes {g : Nat → UInt8} {f : Nat → Bool} {i : Nat} (h : f i = true) : cellB g f i = [g i] := by simp [cellB, h]

/-- A row of three or more. -/
theorem pre_row (g : Nat → UInt8) (f : Nat → Bool) {b e : Nat} (hrun : ∀ i, b ≤ i → i ≤ e → f i = true) (hlong : b + 2 ≤ e) (hb : 0 < b → f (b - 1) = false) (he : f (e + 1) = false) :
    pre (cellT g f) (e + 1) = pre (cellT g f) b ++ [g b, 45, g e] := by
  have c1 : cellT g f b = [g b, 45] := by
    have h1 : (decide (0 < b) && f (b - 1)) = false := by
      by_cases h0 : 0 < b
      · simp [hb h0]
      · simp [h0]
    simp [cellT, hrun b (by omega) (by omega), h1, hrun (b + 1) (by omega) (by omega), hrun (b + 2) (by omega) (by omega)]
  have c2 : cellT g f e = [g e] := by simp [cellT, hrun e (by omega) (by omega), he]
  have c3 : pre (cellT g f) e = pre (cellT g f) (b + 1) := pre_skip' _ (by omega) fun i h1 h2 => by
    simp [cellT, hrun i (by omega) (by omega), hrun (i - 1) (by omega) (by omega), hrun (i + 1) (by omega) (by omega), (by omega : 0 < i)]
  rw [pre_succ, c3, pre_succ, c1, c2, List.append_assoc]
  rfl
/-- A byte alone, or one of two. -/
theorem pre_one (g : Nat → UInt8) (f : Nat → Bool) {b : Nat} (hb : f b = true) (h1 : (f (b + 1) && f (b + 2)) = false) (h2 : ((decide (0 < b) && f (b - 1)) && f (b + 1)) = false) :
    pre (cellT g f) (b + 1) = pre (cellT g f) b ++ [g b] := by
  rw [pre_succ]
  congr 1
  rw [cellT, if_pos hb, if_neg (by rw [h2]; decide), if_neg (by rw [h1]; decide)]

def textB (f : Nat → Bool) : List UInt8 := pre (cellT UInt8.ofNat f) 256
def bytesB (f : Nat → Bool) : List UInt8 := pre (cellB UInt8.ofNat f) 256
def ofBit (i : Nat) : UInt8 := UInt8.ofNat (byteP i)

/-- Bytes by their bits. -/
theorem flat_bridge (h k : Nat → List UInt8) (hz : ∀ b, okb b = false → h b = []) (kz : ∀ i, valid i = false → k i = []) (hk : ∀ i, valid i = true → k i = h (byteP i)) : pre h 256 = pre k 64 := by
  have no : ∀ b, ¬ ((97 ≤ b ∧ b ≤ 122) ∨ (48 ≤ b ∧ b ≤ 57)) → h b = [] := fun b hb => hz b ((okb_not b).2 hb)
  have nk : ∀ i, ¬ (i < 10 ∨ (16 ≤ i ∧ i < 42)) → k i = [] := fun i hi => kz i (by rw [Bool.eq_false_iff, ne_eq, valid_iff]; exact hi)
  rw [pre_skip' h (p := 123) (k := 256) (by omega) (fun i _ _ => no i (by omega)), show (123 : Nat) = 97 + 26 from rfl, pre_add, pre_skip' h (p := 58) (k := 97) (by omega) (fun i _ _ => no i (by omega)),
    show (58 : Nat) = 48 + 10 from rfl, pre_add, pre_skip' h (p := 0) (k := 48) (by omega) (fun i _ _ => no i (by omega)), pre_zero, List.nil_append,
    pre_skip' k (p := 42) (k := 64) (by omega) (fun i _ _ => nk i (by omega)), show (42 : Nat) = 16 + 26 from rfl, pre_add, pre_skip' k (p := 10) (k := 16) (by omega) (fun i _ _ => nk i (by omega))]
  congr 1
  · refine (pre_congr 10 fun i hi => ?_).symm
    rw [hk i ((valid_iff i).2 (by omega)), byteP, if_pos (by omega)]
  · refine (pre_congr 26 fun i hi => ?_).symm
    rw [hk (16 + i) ((valid_iff _).2 (by omega)), byteP, if_neg (by omega)]
    congr 1
    omega

def Sup (f : Nat → Bool) : Prop := ∀ b, f b = true → okb b = true
theorem Sup.no {f : Nat → Bool} (h : Sup f) {b : Nat} (hb : okb b = false) : f b = false := by
  cases hf : f b with
  | false => rfl
  | true => rw [h b hf] at hb; cases hb
theorem rep_near {m : Nat} {f : Nat → Bool} (h : Rep m f) (hs : Sup f) {i : Nat} (hv : valid i = true) (d : Nat) (hd : d ≤ 2) : m.testBit (i + d) = f (byteP i + d) := by
  rw [h]
  rw [valid_iff] at hv
  by_cases hw : valid (i + d) = true
  · rw [hw, Bool.true_and]
    rw [valid_iff] at hw
    congr 1
    unfold byteP
    split <;> split <;> omega
  · rw [Bool.not_eq_true] at hw
    rw [hw, Bool.false_and]
    refine (hs.no ?_).symm
    rw [Bool.eq_false_iff, ne_eq, valid_iff] at hw
    rw [okb_not]
    unfold byteP
    split <;> omega
theorem rep_prev {m : Nat} {f : Nat → Bool} (h : Rep m f) (hs : Sup f) {i : Nat} (hv : valid i = true) : (decide (0 < i) && m.testBit (i - 1)) = f (byteP i - 1) := by
  rw [h]
  rw [valid_iff] at hv
  by_cases h0 : 0 < i
  · rw [decide_eq_true h0, Bool.true_and]
    by_cases hw : valid (i - 1) = true
    · rw [hw, Bool.true_and]
      rw [valid_iff] at hw
      congr 1
      unfold byteP
      split <;> split <;> omega
    · rw [Bool.not_eq_true] at hw
      rw [hw, Bool.false_and]
      refine (hs.no ?_).symm
      rw [Bool.eq_false_iff, ne_eq, valid_iff] at hw
      rw [okb_not]
      unfold byteP
      split <;> omega
  · rw [decide_eq_false h0, Bool.false_and]
    obtain rfl : i = 0 := by omega
    exact (hs.no (by decide)).symm
theorem rep_invalid {m : Nat} {f : Nat → Bool} (h : Rep m f) {i : Nat} (hv : valid i = false) : m.testBit i = false := by rw [h, hv, Bool.false_and]

theorem text_bridge {m : Nat} {f : Nat → Bool} (h : Rep m f) (hs : Sup f) : textB f = pre (cellT ofBit m.testBit) 64 := by
  refine flat_bridge _ _ (fun b hb => cellT_none (hs.no hb)) (fun i hi => cellT_none (rep_invalid h hi)) fun i hi => ?_
  have n0 := rep_near h hs hi 0 (by omega)
  have n1 := rep_near h hs hi 1 (by omega)
  have n2 := rep_near h hs hi 2 (by omega)
  have np := rep_prev h hs hi
  simp only [Nat.add_zero] at n0
  have hp : decide (0 < byteP i) = true := by
    apply decide_eq_true
    unfold byteP
    split <;> omega
  simp only [cellT, n0, n1, n2, np, hp, Bool.true_and, ofBit]
theorem bytes_bridge {m : Nat} {f : Nat → Bool} (h : Rep m f) (hs : Sup f) : bytesB f = pre (cellB ofBit m.testBit) 64 := by
  refine flat_bridge _ _ (fun b hb => cellB_none (hs.no hb)) (fun i hi => cellB_none (rep_invalid h hi)) fun i hi => ?_
  have n0 := rep_near h hs hi 0 (by omega)
  simp only [Nat.add_zero] at n0
  simp only [cellB, n0, ofBit]

/- The lowest bit, and how long a row of bits is. -/
theorem ctz_low {m : Nat} (h0 : m ≠ 0) (h : m < 18446744073709551616) : m.testBit (Lib.ctz 64 m) = true ∧ Lib.ctz 64 m < 64 ∧ ∀ i, i < Lib.ctz 64 m → m.testBit i = false := by
  have h1 : Lib.ctz 64 m = Lib.ctzFrom 64 m := by rw [Lib.ctz, if_neg h0]
  rw [h1]
  obtain ⟨q, hq, hk⟩ := Lib.ctzFrom_spec 64 m (by omega) (by simpa using h)
  generalize Lib.ctzFrom 64 m = k at *
  refine ⟨?_, hk, fun i hi => ?_⟩
  · rw [hq, Nat.mul_comm, Nat.testBit_mul_two_pow]
    simp
  · rw [hq, Nat.mul_comm, Nat.testBit_mul_two_pow, decide_eq_false (by omega : ¬ k ≤ i), Bool.false_and]

theorem ctz_run {m k : Nat} (hm : m < 4398046511104) (hk : m.testBit k = true) : ∃ n, Lib.ctz 64 (18446744073709551615 - m / 2 ^ k) = n + 1 ∧ n + 1 < 64 ∧ (∀ j, j ≤ n → m.testBit (k + j) = true) ∧ m.testBit (k + (n + 1)) = false := by
  have hx : m / 2 ^ k < 4398046511104 := Nat.lt_of_le_of_lt (Nat.div_le_self _ _) hm
  have hs : ∀ i, (m / 2 ^ k).testBit i = m.testBit (k + i) := fun i => by rw [Nat.testBit_div_two_pow, Nat.add_comm]
  generalize m / 2 ^ k = x at *
  have hbit : ∀ i, (18446744073709551615 - x).testBit i = (decide (i < 64) && !m.testBit (k + i)) := fun i => by
    have e64 : (2 : Nat) ^ 64 = 18446744073709551616 := by decide
    have e : 18446744073709551615 - x = 2 ^ 64 - (x + 1) := by rw [e64]; omega
    rw [e, Nat.testBit_two_pow_sub_succ (by rw [e64]; omega), hs]
  obtain ⟨h1, h2, h3⟩ := ctz_low (m := 18446744073709551615 - x) (by omega) (by omega)
  generalize Lib.ctz 64 (18446744073709551615 - x) = c at *
  rw [hbit] at h1
  match c, h1, h2, h3 with
  | 0, h1, _, _ => simp [hk] at h1
  | n + 1, h1, h2, h3 =>
    refine ⟨n, rfl, h2, fun j hj => ?_, by simpa [h2] using h1⟩
    have h4 := h3 j (by omega)
    rw [hbit] at h4
    simpa [(by omega : j < 64)] using h4

/-- What is told of a set. -/
def toldP (f : Nat → Bool) : List UInt8 × Bool := if okL (textB f) then (textB f, true) else ([], false)
def memB (l : List UInt8) (x : Nat) : Bool := l.any fun u => u.toNat == x
def setOfP (l : List UInt8) : List UInt8 × Bool := if (l.all fun u => okb u.toNat) = true then toldP (memB l) else ([], false)
def joinP (a b : List UInt8) : List UInt8 × Bool := if (okL a && okL b) = true then toldP (fun x => inL a x || inL b x) else ([], false)
def meetP (a b : List UInt8) : List UInt8 × Bool := if (okL a && okL b) = true then toldP (fun x => inL a x && inL b x) else ([], false)
def pairV (p : List UInt8 × Bool) : Value := .tuple #[.string (str p.1), .bool p.2]

theorem text_none {f : Nat → Bool} (h : ∀ x, f x = false) : textB f = [] := pre_skip' (p := 0) _ (Nat.zero_le _) fun i _ _ => cellT_none (h i)
theorem told_none {f : Nat → Bool} (h : ∀ x, f x = false) : toldP f = ([], false) := by
  rw [toldP, text_none h]
  rfl
theorem meet_any (a b : List UInt8) : meetP a b = toldP (fun x => inL a x && inL b x) := by
  unfold meetP
  split
  · rfl
  · rename_i h
    refine (told_none fun x => ?_).symm
    cases ha : okL a with
    | false => simp [inL, ha]
    | true =>
      cases hb : okL b with
      | false => simp [inL, hb]
      | true => exact absurd (by rw [ha, hb]; rfl) h

theorem mem_bytes {f : Nat → Bool} (hs : Sup f) : memB (bytesB f) = f := by
  funext x
  rw [memB, Bool.eq_iff_iff, List.any_eq_true]
  constructor
  · rintro ⟨u, hu, hx⟩
    obtain ⟨i, hi, hm⟩ := pre_mem.1 hu
    unfold cellB at hm
    split at hm
    · rename_i hf
      obtain rfl := List.mem_singleton.1 hm
      rw [beq_iff_eq, toNat_ofNat i hi] at hx
      rw [← hx]; exact hf
    · cases hm
  · intro hf
    have ho := (okb_iff x).1 (hs x hf)
    exact ⟨UInt8.ofNat x, pre_mem.2 ⟨x, by omega, by simp [cellB, hf]⟩, by rw [toNat_ofNat x (by omega)]; simp⟩
theorem bytes_ok {f : Nat → Bool} (hs : Sup f) : (bytesB f).all (fun u => okb u.toNat) = true := by
  rw [List.all_eq_true]
  intro u hu
  obtain ⟨i, hi, hm⟩ := pre_mem.1 hu
  unfold cellB at hm
  split at hm
  · rename_i hf
    obtain rfl := List.mem_singleton.1 hm
    rw [toNat_ofNat i hi]
    exact hs i hf
  · cases hm
theorem memB_app (l m : List UInt8) : memB (l ++ m) = fun x => memB l x || memB m x := by funext x; simp [memB]
theorem memB_sup {l : List UInt8} (h : (l.all fun u => okb u.toNat) = true) : Sup (memB l) := by
  intro b hb
  rw [memB, List.any_eq_true] at hb
  obtain ⟨u, hu, hx⟩ := hb
  rw [beq_iff_eq] at hx
  rw [← hx]
  exact List.all_eq_true.1 h u hu
theorem inL_sup (l : List UInt8) : Sup (inL l) := fun _ h => inL_okb h
theorem Sup.or {f g : Nat → Bool} (h : Sup f) (k : Sup g) : Sup fun x => f x || g x := fun b hb => by
  rw [Bool.or_eq_true] at hb
  exact hb.elim (h b) (k b)
theorem Sup.and {f g : Nat → Bool} (h : Sup f) (_ : Sup g) : Sup fun x => f x && g x := fun b hb => by
  rw [Bool.and_eq_true] at hb
  exact h b hb.1
theorem text_len (f : Nat → Bool) : (textB f).length ≤ 512 := pre_len 2 (cellT_len _ _) 256
theorem bytes_len (f : Nat → Bool) : (bytesB f).length ≤ 256 := by
  have := pre_len 1 (cellB_len UInt8.ofNat f) 256
  rw [Nat.one_mul] at this
  exact this

end Go.Proofs.YtokidlklkgghkaaGreatDoor

namespace Go.Proofs.YtokidlklkgghkaaGreatDoor
open Go.RowKit

def kindP (b : Nat) : Int := if 48 ≤ b ∧ b ≤ 57 then 1 else if 97 ≤ b ∧ b ≤ 122 then 2 else 0

theorem kind_any (b : Nat) (hb : b < 256) (w : World) :
    Calls Tryz.prog 117 #[.int .u8 b] w fun e w' => e = .returned (.int .i64 (kindP b)) ∧ w' = w := by
  by_cases h1 : 48 ≤ b ∧ b ≤ 57
  · have HV : Hid (kindP b = 1) := by simp only [Hid, kindP, if_pos h1]
    obtain ⟨h1, h2⟩ := h1
    go_enter Tryz.func117, Tryz.ntmps117
    go_wp2
    go_ret
    rw [HV.out]
    exact ⟨rfl, rfl⟩
  · by_cases h2 : 97 ≤ b ∧ b ≤ 122
    · have HV : Hid (kindP b = 2) := by simp only [Hid, kindP, if_neg h1, if_pos h2]
      obtain ⟨h2, h3⟩ := h2
      clear h1
      go_enter Tryz.func117, Tryz.ntmps117
      go_wp2
      go_ret
      rw [HV.out]
      exact ⟨rfl, rfl⟩
    · have HV : Hid (kindP b = 0) := by simp only [Hid, kindP, if_neg h1, if_neg h2]
      by_cases h3 : b < 48
      · go_enter Tryz.func117, Tryz.ntmps117
        go_wp2
        go_ret
        rw [HV.out]
        exact ⟨rfl, rfl⟩
      · by_cases h4 : b < 97
        · have h5 : 57 < b := by omega
          go_enter Tryz.func117, Tryz.ntmps117
          go_wp2
          go_ret
          rw [HV.out]
          exact ⟨rfl, rfl⟩
        · have h5 : 122 < b := by omega
          go_enter Tryz.func117, Tryz.ntmps117
          go_wp2
          go_ret
          rw [HV.out]
          exact ⟨rfl, rfl⟩

end Go.Proofs.YtokidlklkgghkaaGreatDoor

namespace Go.Proofs.YtokidlklkgghkaaGreatDoor
open Go.RowKit

def bitP (b : Nat) : Nat := if okb b = true then 2 ^ pos b else 0

theorem wrap_pow (k : Nat) (h : k < 64) : IntKind.u64.wrap ((2 : Int) ^ k) = ((2 ^ k : Nat) : Int) := by
  have h1 : (2 : Nat) ^ k < 18446744073709551616 := Nat.lt_of_lt_of_le (Nat.pow_lt_pow_right (by decide) h) (by decide)
  have h2 : ((2 : Int) ^ k) = ((2 ^ k : Nat) : Int) := by simp
  rw [h2, IntKind.wrap_u64]
  generalize 2 ^ k = x at *
  omega
theorem and_pow (m p : Nat) : (m &&& 2 ^ p != 0) = m.testBit p := by
  cases h : m.testBit p with
  | false =>
    have : m &&& 2 ^ p = 0 := by
      apply Nat.eq_of_testBit_eq
      intro i
      rw [Nat.testBit_and, Nat.testBit_two_pow, Nat.zero_testBit]
      by_cases hi : p = i
      · subst hi; simp [h]
      · simp [hi]
    rw [this]; rfl
  | true =>
    have : m &&& 2 ^ p ≠ 0 := by
      intro e
      have h1 : (m &&& 2 ^ p).testBit p = true := by rw [Nat.testBit_and, h, Nat.testBit_two_pow]; simp
      rw [e] at h1
      simp at h1
    simpa using this
theorem bits_andNot_u64_nat (a b : Nat) (ha : a < 18446744073709551616) (hb : b < 18446744073709551616) : bits .andNot .u64 (a : Int) (b : Int) = ((a &&& (18446744073709551615 - b) : Nat) : Int) := by
  have hx : a &&& (18446744073709551615 - b) < 2 ^ 64 := Nat.and_lt_two_pow _ (by omega)
  have h1 : (BitVec.ofInt 64 (a : Int)).toNat = a := by
    rw [BitVec.ofInt_natCast, BitVec.toNat_ofNat]; exact Nat.mod_eq_of_lt (by omega)
  have h2 : (~~~ BitVec.ofInt 64 (b : Int)).toNat = 18446744073709551615 - b := by
    rw [BitVec.toNat_not, BitVec.ofInt_natCast, BitVec.toNat_ofNat, Nat.mod_eq_of_lt (by omega)]
  show IntKind.u64.wrap ((BitVec.ofInt 64 (a : Int) &&& ~~~ BitVec.ofInt 64 (b : Int)).toNat : Int) = _
  rw [BitVec.toNat_and, h1, h2, IntKind.wrap_u64]
  omega
theorem bitP_lt (b : Nat) : bitP b < 18446744073709551616 := by
  unfold bitP
  split
  · rename_i h
    have hv := (valid_iff _).1 (byteP_pos h).2
    exact Nat.lt_of_lt_of_le (Nat.pow_lt_pow_right (by decide) (by omega : pos b < 64)) (by decide)
  · decide

theorem bit_any (b : Nat) (hb : b < 256) (w : World) :
    Calls Tryz.prog 150 #[.int .u8 b] w fun e w' => e = .returned (.int .u64 (bitP b : Nat)) ∧ w' = w := by
  have HK : Hid (∀ W, _) := fun W => kind_any b hb W
  by_cases h1 : 48 ≤ b ∧ b ≤ 57
  · have HV : Hid (IntKind.u64.wrap ((2 : Int) ^ (b - 48)) = ((bitP b : Nat) : Int)) := by rw [Hid, bitP, if_pos ((okb_iff b).2 (.inr h1)), pos, if_pos (by omega), wrap_pow _ (by omega)]
    have hk : kindP b = 1 := by simp only [kindP, if_pos h1]
    rw [hk] at HK
    obtain ⟨h1, h2⟩ := h1
    clear hk
    go_enter Tryz.func150, Tryz.ntmps150
    go_wp2_with (go_at_call 117; refine (HK.out _).mono ?_; rintro e wq ⟨rfl, hw⟩; rw [hw]; clear hw)
    go_ret
    exact ⟨congrArg (fun z => Ending.returned (Value.int .u64 z)) HV.out, rfl⟩
  · by_cases h2 : 97 ≤ b ∧ b ≤ 122
    · have HV : Hid (IntKind.u64.wrap ((2 : Int) ^ (b - 97 + 16)) = ((bitP b : Nat) : Int)) := by rw [Hid, bitP, if_pos ((okb_iff b).2 (.inl h2)), pos, if_neg (by omega), wrap_pow _ (by omega)]
      have hk : kindP b = 2 := by simp only [kindP, if_neg h1, if_pos h2]
      rw [hk] at HK
      obtain ⟨h2, h3⟩ := h2
      clear hk h1
      have e1 : ((b : Int) - 97 + 16).toNat = b - 97 + 16 := by omega
      go_enter Tryz.func150, Tryz.ntmps150
      go_wp2_with (go_at_call 117; refine (HK.out _).mono ?_; rintro e wq ⟨rfl, hw⟩; rw [hw]; clear hw)
      go_ret
      exact ⟨congrArg (fun z => Ending.returned (Value.int .u64 z)) HV.out, rfl⟩
    · have HV : Hid (bitP b = 0) := by rw [Hid, bitP, if_neg]; rw [okb_iff]; omega
      have hk : kindP b = 0 := by simp only [kindP, if_neg h1, if_neg h2]
      rw [hk] at HK
      clear hk h1 h2
      go_enter Tryz.func150, Tryz.ntmps150
      go_wp2_with (go_at_call 117; refine (HK.out _).mono ?_; rintro e wq ⟨rfl, hw⟩; rw [hw]; clear hw)
      go_ret
      rw [HV.out]
      exact ⟨rfl, rfl⟩

theorem joined_any (a b : Nat) (ha : a < 18446744073709551616) (hb : b < 18446744073709551616) (w : World) :
    Calls Tryz.prog 141 #[.int .u64 a, .int .u64 b] w fun e w' => e = .returned (.int .u64 (a ||| b : Nat)) ∧ w' = w := by
  go_enter Tryz.func141, Tryz.ntmps141
  go_wp2
  go_ret
  exact ⟨congrArg (fun z => Ending.returned (Value.int .u64 z)) (bits_or_u64_nat a b ha hb), rfl⟩

/-- The row of two bytes, as bits; nothing where the two bound no row. -/
def rowP (a c : Nat) : Nat := if (okb a && rowOk a c) = true then rowM (a, c) else 0
theorem rowP_lt (a c : Nat) : rowP a c < 18446744073709551616 := by
  unfold rowP
  split
  · rename_i h
    rw [Bool.and_eq_true] at h
    have hg := good_pos (rowOk_good h.1 h.2)
    have h1 : 2 ^ (pos c + 1) ≤ 2 ^ 42 := Nat.pow_le_pow_right (by decide) (by have := hg.2; simp only at this; omega)
    have h2 : rowM (a, c) ≤ 2 ^ (pos c + 1) := Nat.sub_le _ _
    exact Nat.lt_of_le_of_lt (Nat.le_trans h2 h1) (by decide)
  · decide

theorem kind_same {a c : Nat} (h : kindP a = kindP c) (ha : okb a = true) : okb c = true ∧ (57 < c ↔ 57 < a) := by
  rw [okb_iff] at ha ⊢
  unfold kindP at h
  split at h
  · split at h
    · omega
    · split at h <;> omega
  · split at h
    · split at h
      · omega
      · split at h <;> omega
    · omega

/-- What the walk over rowOf leans on. -/
theorem rowP_cases (a c : Nat) : (kindP a ≠ kindP c ∨ c < a) ∧ rowP a c = 0 ∨ kindP a = kindP c ∧ a ≤ c ∧ bitP c * 2 < 18446744073709551616 ∧ bitP a ≤ bitP c * 2 ∧ rowP a c = bitP c * 2 - bitP a := by
  by_cases hk : kindP a = kindP c
  · by_cases hl : c < a
    · refine .inl ⟨.inr hl, ?_⟩
      rw [rowP, if_neg]
      rw [Bool.and_eq_true, rowOk]
      rintro ⟨_, h⟩
      simp only [Bool.and_eq_true, decide_eq_true_eq] at h
      omega
    · refine .inr ⟨hk, by omega, ?_⟩
      cases ha : okb a with
      | true =>
        obtain ⟨h1, h2⟩ := kind_same hk ha
        have hr : rowOk a c = true := by
          rw [rowOk, h1, decide_eq_true (by omega : a ≤ c)]
          simp [h2]
        have hg := good_pos (rowOk_good ha hr)
        simp only at hg
        have e1 : bitP c * 2 = 2 ^ (pos c + 1) := by rw [bitP, if_pos h1, Nat.pow_succ]
        have e2 : bitP a = 2 ^ pos a := by rw [bitP, if_pos ha]
        rw [e1, e2, rowP, ha, hr, if_pos (by decide)]
        refine ⟨?_, ?_, rfl⟩
        · exact Nat.lt_of_lt_of_le (Nat.pow_lt_pow_right (by decide) (by omega : pos c + 1 < 64)) (by decide)
        · exact Nat.pow_le_pow_right (by decide) (by omega)
      | false =>
        have hc : okb c = false := by
          cases hc : okb c with
          | false => rfl
          | true => rw [(kind_same hk.symm hc).1] at ha; cases ha
        simp [bitP, ha, hc, rowP]
  · refine .inl ⟨.inl hk, ?_⟩
    rw [rowP, if_neg]
    rw [Bool.and_eq_true]
    rintro ⟨ha, h⟩
    obtain ⟨h1, h2, h3, h4⟩ := rowOk_good ha h
    rw [okb_iff] at h1 h2
    apply hk
    simp only at h1 h2 h3 h4
    unfold kindP
    by_cases h5 : a ≤ 57
    · rw [if_pos (by omega), if_pos (by omega)]
    · rw [if_neg (by omega), if_pos (by omega), if_neg (by omega), if_pos (by omega)]

set_option maxHeartbeats 800000 in
set_option maxRecDepth 100000 in
theorem rowOf_any (a c : Nat) (ha : a < 256) (hc : c < 256) (w : World) :
    Calls Tryz.prog 140 #[.int .u8 a, .int .u8 c] w fun e w' => e = .returned (.int .u64 (rowP a c : Nat)) ∧ w' = w := by
  rcases rowP_cases a c with ⟨h, hr⟩ | ⟨hk, hl, h1, h2, hr⟩
  · have HR : Hid (rowP a c = 0) := hr
    clear hr
    by_cases hk : kindP a = kindP c
    · have hl : c < a := h.resolve_left (fun h => h hk)
      have hk' : (kindP a != kindP c) = false := by simpa using hk
      clear h hk
      go_enter Tryz.func140, Tryz.ntmps140
      go_wp2_with (go_at_call 117; refine (kind_any _ (by omega) _).mono ?_; rintro e wq ⟨rfl, hw⟩; rw [hw]; clear hw)
      go_ret
      rw [HR.out]
      exact ⟨rfl, rfl⟩
    · clear h
      have hk' : (kindP a != kindP c) = true := by simpa using hk
      clear hk
      go_enter Tryz.func140, Tryz.ntmps140
      go_wp2_with (go_at_call 117; refine (kind_any _ (by omega) _).mono ?_; rintro e wq ⟨rfl, hw⟩; rw [hw]; clear hw)
      go_ret
      rw [HR.out]
      exact ⟨rfl, rfl⟩
  · have HR : Hid (((bitP c : Int) * 2 - (bitP a : Int)) = ((rowP a c : Nat) : Int)) := by rw [Hid, hr]; omega
    have hk' : (kindP a != kindP c) = false := by simpa using hk
    clear hr hk
    go_enter Tryz.func140, Tryz.ntmps140
    go_wp2_with (first
      | (go_at_call 117; refine (kind_any _ (by omega) _).mono ?_; rintro e wq ⟨rfl, hw⟩; rw [hw]; clear hw)
      | (go_at_call 150; refine (bit_any _ (by omega) _).mono ?_; rintro e wq ⟨rfl, hw⟩; rw [hw]; clear hw))
    go_ret
    exact ⟨congrArg (fun z => Ending.returned (Value.int .u64 z)) HR.out, rfl⟩

end Go.Proofs.YtokidlklkgghkaaGreatDoor

namespace Go.Proofs.YtokidlklkgghkaaGreatDoor
open Go.RowKit

/-- What is read up to a place. -/
def ReadTo (l : List UInt8) (rs : List (Nat × Nat)) (k : Nat) : Prop := rowsL l = (rowsL (l.drop k)).map (rs ++ ·) ∧ ∀ p ∈ rs, GoodR p
theorem readTo_start (l : List UInt8) : ReadTo l [] 0 := ⟨by simp, fun _ h => by cases h⟩
theorem readTo_none {l : List UInt8} {rs : List (Nat × Nat)} {k : Nat} (h : ReadTo l rs k) (hn : rowsL (l.drop k) = none) : rowsL l = none := by rw [h.1, hn]; rfl
theorem readTo_step {l : List UInt8} {rs : List (Nat × Nat)} {k j : Nat} {p : Nat × Nat} (h : ReadTo l rs k) (hs : rowsL (l.drop k) = (rowsL (l.drop j)).map (p :: ·)) (hg : GoodR p) : ReadTo l (rs ++ [p]) j := by
  refine ⟨?_, fun q hq => ?_⟩
  · rw [h.1, hs, Option.map_map]
    congr 1
    funext x
    simp
  · rcases List.mem_append.1 hq with hq | hq
    · exact h.2 q hq
    · rw [List.mem_singleton.1 hq]; exact hg
theorem readTo_end {l : List UInt8} {rs : List (Nat × Nat)} {k : Nat} (h : ReadTo l rs k) (hk : l.length ≤ k) : rowsL l = some rs := by
  rw [h.1, List.drop_of_length_le hk]
  simp [rowsL]
theorem maskL_of {l : List UInt8} {rs : List (Nat × Nat)} (h : rowsL l = some rs) (hl : l.length ≤ 12) : maskL l = maskR rs := by rw [maskL, if_neg (by omega), h]
theorem maskL_no {l : List UInt8} (h : rowsL l = none) : maskL l = 0 := by
  rw [maskL, h]
  split <;> rfl
theorem maskR_lt {rs : List (Nat × Nat)} (h : ∀ p ∈ rs, GoodR p) : maskR rs < 18446744073709551616 := by
  have := testBit_lt (m := maskR rs) fun i hi => by
    rw [maskR_bit rs h i, Bool.and_eq_true, valid_iff] at hi
    omega
  omega

theorem rowP_yes {a c : Nat} (ha : okb a = true) (h : rowOk a c = true) : rowP a c = rowM (a, c) := by rw [rowP, ha, h]; rfl
theorem rowP_no {a c : Nat} (h : (okb a && rowOk a c) = false) : rowP a c = 0 := by rw [rowP, h]; rfl
theorem rowOk_self {a : Nat} (h : okb a = true) : rowOk a a = true := by simp [rowOk, h]

theorem rows_bad' (l : List UInt8) (i : Nat) (h : i + 2 < l.length) (hb : l[i + 1].toNat = 45) (hr : (okb l[i].toNat && rowOk l[i].toNat l[i + 2].toNat) = false) : rowsL (l.drop i) = none := by
  cases ha : okb l[i].toNat with
  | false => exact rows_bad l i (by omega) ha
  | true => exact rows_norow l i h hb (by rw [ha, Bool.true_and] at hr; exact hr)

set_option maxHeartbeats 1600000 in
set_option maxRecDepth 100000 in
theorem readSet_any (s : ByteArray) (w : World) :
    Calls Tryz.prog 132 #[.string s] w fun e w' => e = .returned (.int .u64 (maskL s.data.toList : Nat)) ∧ Below w.heap.size w w' := by
  have HL : Hid (s.data.toList.length = s.size) := by simp [Hid]
  by_cases hlen : 12 < s.size
  · have hlen1 : (12 : Int) < s.size := by omega
    have HV : Hid (maskL s.data.toList = 0) := by rw [Hid, maskL, if_pos (by rw [HL.out]; exact hlen)]
    go_enter Tryz.func132, Tryz.ntmps132
    go_wp2
    go_ret
    rw [HV.out]
    exact ⟨rfl, Below.refl _ _⟩
  · have hlen1 : s.size ≤ 12 := by omega
    clear hlen
    go_enter Tryz.func132, Tryz.ntmps132
    go_wp2
    go_loopw [3, 4] (fun mv iv wr => ∃ (k : Nat) (rs : List (Nat × Nat)), mv = .int .u64 (maskR rs : Nat) ∧ iv = .int .i64 k ∧ k ≤ s.size ∧ ReadTo s.data.toList rs k ∧ Below w.heap.size w wr) (fun _ iv _ => s.size - (intOf iv).toNat)
    case atStart => exact ⟨0, [], rfl, rfl, Nat.zero_le _, readTo_start _, Below.refl _ _⟩
    case round =>
      obtain ⟨k, rs, rfl, rfl, hk, hread, hbel⟩ := hrel
      have HR : Hid (ReadTo s.data.toList rs k) := hread
      have HB : Hid (Below w.heap.size w wr) := hbel
      have hm := maskR_lt hread.2
      clear hread hbel
      by_cases hlt : k < s.size
      · have hu := s[k].toNat_lt
        have g1 : (0 : Int) ≤ (k : Int) := by omega
        have g2 : (k : Int) < (s.size : Int) := by omega
        by_cases hd : ∃ h2 : k + 2 < s.size, s[k + 1].toNat = 45
        · obtain ⟨h2, h45⟩ := hd
          have d1 : ((s[k + 1].toNat : Int) == 45) = true := by rw [h45]; rfl
          have hu2 := s[k + 2].toNat_lt
          have hrl := rowP_lt s[k].toNat s[k + 2].toNat
          have HD : Hid (s[k + 1].toNat = 45) := h45
          clear h45
          cases hrow : (okb s[k].toNat && rowOk s[k].toNat s[k + 2].toNat) with
          | false =>
            have HV : Hid (maskL s.data.toList = 0) := maskL_no (readTo_none HR.out (rows_bad' _ k (by rw [HL.out]; exact h2) HD.out hrow))
            have hp : rowP s[k].toNat s[k + 2].toNat = 0 := rowP_no hrow
            clear hrow
            go_wp2
            go_quiet (fail)
            go_wp2_with (go_at_call 140; refine (rowOf_any _ _ (by omega) (by omega) _).mono ?_; rw [hp]; rintro e wq ⟨rfl, hw⟩; rw [hw]; clear hw)
            go_ret
            rw [HV.out]
            exact ⟨rfl, bel_drewN HB.out _⟩
          | true =>
            rw [Bool.and_eq_true] at hrow
            have hp : rowP s[k].toNat s[k + 2].toNat = rowM (s[k].toNat, s[k + 2].toNat) := rowP_yes hrow.1 hrow.2
            have hne : ((rowM (s[k].toNat, s[k + 2].toNat) : Nat) : Int) ≠ 0 := by
              have := rowM_pos (rowOk_good hrow.1 hrow.2)
              omega
            have hne2 : (((rowM (s[k].toNat, s[k + 2].toNat) : Nat) : Int) == 0) = false := by simpa using hne
            rw [hp] at hrl
            have HS : Hid (ReadTo s.data.toList (rs ++ [(s[k].toNat, s[k + 2].toNat)]) (k + 3)) := readTo_step HR.out (rows_row _ k (by rw [HL.out]; exact h2) hrow.1 HD.out hrow.2) (rowOk_good hrow.1 hrow.2)
            have HM : Hid (maskR (rs ++ [(s[k].toNat, s[k + 2].toNat)]) = maskR rs ||| rowM (s[k].toNat, s[k + 2].toNat)) := maskR_app _ _
            clear hrow hne
            generalize rowM (s[k].toNat, s[k + 2].toNat) = x at *
            go_wp2
            go_quiet (fail)
            go_wp2_with (first
              | (go_at_call 140; refine (rowOf_any _ _ (by omega) (by omega) _).mono ?_; rw [hp]; rintro e wq ⟨rfl, hw⟩; rw [hw]; clear hw)
              | (go_at_call 141; refine (joined_any _ _ hm hrl _).mono ?_; rintro e wq ⟨rfl, hw⟩; rw [hw]; clear hw))
            go_roundw
            case rel => exact ⟨k + 3, _, by rw [HM.out], by go_num, by omega, HS.out, bel_drewN HB.out _⟩
            case measure => simp [intOf]; omega
        · have hone : ∀ h2 : k + 2 < s.data.toList.length, s.data.toList[k + 1].toNat ≠ 45 := fun h2 h45 => hd ⟨by rw [HL.out] at h2; exact h2, h45⟩
          have hrl := rowP_lt s[k].toNat s[k].toNat
          cases ha : okb s[k].toNat with
          | false =>
            have HV : Hid (maskL s.data.toList = 0) := maskL_no (readTo_none HR.out (rows_bad _ k (by rw [HL.out]; exact hlt) ha))
            have hp : rowP s[k].toNat s[k].toNat = 0 := rowP_no (by rw [ha]; rfl)
            clear ha hone
            by_cases h2 : k + 2 < s.size
            · have d1 : ((s[k + 1].toNat : Int) == 45) = false := by
                have : s[k + 1].toNat ≠ 45 := fun h45 => hd ⟨h2, h45⟩
                simpa using (by omega : (s[k + 1].toNat : Int) ≠ 45)
              clear hd
              go_wp2
              go_quiet (fail)
              go_wp2_with (go_at_call 140; refine (rowOf_any _ _ (by omega) (by omega) _).mono ?_; rw [hp]; rintro e wq ⟨rfl, hw⟩; rw [hw]; clear hw)
              go_ret
              rw [HV.out]
              exact ⟨rfl, bel_drewN HB.out _⟩
            · clear hd
              go_wp2
              go_quiet (fail)
              go_wp2_with (go_at_call 140; refine (rowOf_any _ _ (by omega) (by omega) _).mono ?_; rw [hp]; rintro e wq ⟨rfl, hw⟩; rw [hw]; clear hw)
              go_ret
              rw [HV.out]
              exact ⟨rfl, bel_drewN HB.out _⟩
          | true =>
            have hp : rowP s[k].toNat s[k].toNat = rowM (s[k].toNat, s[k].toNat) := rowP_yes ha (rowOk_self ha)
            have hg : GoodR (s[k].toNat, s[k].toNat) := rowOk_good ha (rowOk_self ha)
            have hne2 : (((rowM (s[k].toNat, s[k].toNat) : Nat) : Int) == 0) = false := by
              have := rowM_pos hg
              simpa using (by omega : ((rowM (s[k].toNat, s[k].toNat) : Nat) : Int) ≠ 0)
            rw [hp] at hrl
            have HS : Hid (ReadTo s.data.toList (rs ++ [(s[k].toNat, s[k].toNat)]) (k + 1)) := readTo_step HR.out (rows_one _ k (by rw [HL.out]; exact hlt) ha hone) hg
            have HM : Hid (maskR (rs ++ [(s[k].toNat, s[k].toNat)]) = maskR rs ||| rowM (s[k].toNat, s[k].toNat)) := maskR_app _ _
            clear ha hg hone
            generalize rowM (s[k].toNat, s[k].toNat) = x at *
            by_cases h2 : k + 2 < s.size
            · have d1 : ((s[k + 1].toNat : Int) == 45) = false := by
                have : s[k + 1].toNat ≠ 45 := fun h45 => hd ⟨h2, h45⟩
                simpa using (by omega : (s[k + 1].toNat : Int) ≠ 45)
              clear hd
              go_wp2
              go_quiet (fail)
              go_wp2_with (first
                | (go_at_call 140; refine (rowOf_any _ _ (by omega) (by omega) _).mono ?_; rw [hp]; rintro e wq ⟨rfl, hw⟩; rw [hw]; clear hw)
                | (go_at_call 141; refine (joined_any _ _ hm hrl _).mono ?_; rintro e wq ⟨rfl, hw⟩; rw [hw]; clear hw))
              go_roundw
              case rel => exact ⟨k + 1, _, by rw [HM.out], by go_num, by omega, HS.out, bel_drewN HB.out _⟩
              case measure => simp [intOf]; omega
            · clear hd
              go_wp2
              go_quiet (fail)
              go_wp2_with (first
                | (go_at_call 140; refine (rowOf_any _ _ (by omega) (by omega) _).mono ?_; rw [hp]; rintro e wq ⟨rfl, hw⟩; rw [hw]; clear hw)
                | (go_at_call 141; refine (joined_any _ _ hm hrl _).mono ?_; rintro e wq ⟨rfl, hw⟩; rw [hw]; clear hw))
              go_roundw
              case rel => exact ⟨k + 1, _, by rw [HM.out], by go_num, by omega, HS.out, bel_drewN HB.out _⟩
              case measure => simp [intOf]; omega
      · obtain rfl : k = s.size := by omega
        have HV : Hid (maskL s.data.toList = maskR rs) := maskL_of (readTo_end HR.out (by rw [HL.out]; exact Nat.le_refl _)) (by rw [HL.out]; exact hlen1)
        go_wp2
        go_ret
        rw [HV.out]
        exact ⟨rfl, HB.out⟩

theorem implSetOk_any (s : ByteArray) (w : World) :
    Calls Tryz.prog 123 #[.string s] w fun e w' => e = .returned (.bool (okL s.data.toList)) ∧ Below w.heap.size w w' := by
  have HV : Hid ((((maskL s.data.toList : Nat) : Int) != 0) = okL s.data.toList) := by rw [Hid, maskL_ok, Bool.eq_iff_iff]; simp
  have HR : Hid (∀ W, _) := fun W => readSet_any s W
  generalize maskL s.data.toList = m at *
  go_enter Tryz.func123, Tryz.ntmps123
  go_wp2_with (go_at_call 132; refine (HR.out _).mono ?_; rintro e w1 ⟨rfl, hb1⟩)
  go_ret
  exact ⟨congrArg (fun z => Ending.returned (Value.bool z)) HV.out, hb1⟩

end Go.Proofs.YtokidlklkgghkaaGreatDoor
