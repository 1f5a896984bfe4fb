/- Sets of bytes, with no program: the bytes that a set tells, and the text that is told of it, from the front on; by bytes and by bits. -/
/- The program's kindOf. -/
import Derived.Test.YtofpoiccghpliaaGreatDoorSetPure
import Derived.Test.YtofpoiccghpliaaGreatDoorRows
import Derived.Test.YtofpoiccghpliaaGreatDoorVRow
import Derived.Lib.TrailingZeros
namespace Go.Proofs.YtofpoiccghpliaaGreatDoor

/-- What comes of the first n, one behind the other. -/
def pre (h : Nat → List UInt8) (n : Nat) : List UInt8 := (List.range n).flatMap h
theorem pre_zero (h : Nat → List UInt8) : pre h 0 = [] := rfl
theorem pre_succ (h : Nat → List UInt8) (n : Nat) : pre h (n + 1) = pre h n ++ h n := by simp [pre, List.range_succ]
theorem pre_skip (h : Nat → List UInt8) (p : Nat) : ∀ d, (∀ i, p ≤ i → i < p + d → h i = []) → pre h (p + d) = pre h p
  | 0, _ => rfl
  | d + 1, hz => by
    rw [← Nat.add_assoc, pre_succ, pre_skip h p d (fun i h1 h2 => hz i h1 (by omega)), hz (p + d) (by omega) (by omega), List.append_nil]
theorem pre_skip' (h : Nat → List UInt8) {p k : Nat} (hpk : p ≤ k) (hz : ∀ i, p ≤ i → i < k → h i = []) : pre h k = pre h p := by
  obtain ⟨d, rfl⟩ : ∃ d, k = p + d := ⟨k - p, by omega⟩
  exact pre_skip h p d hz
theorem pre_add (h : Nat → List UInt8) (a : Nat) : ∀ n, pre h (a + n) = pre h a ++ pre (fun i => h (a + i)) n
  | 0 => by simp [pre_zero]
  | n + 1 => by rw [← Nat.add_assoc, pre_succ, pre_add h a n, pre_succ, List.append_assoc]
theorem pre_congr {h g : Nat → List UInt8} : ∀ n, (∀ i, i < n → h i = g i) → pre h n = pre g n
  | 0, _ => rfl
  | n + 1, e => by rw [pre_succ, pre_succ, pre_congr n (fun i hi => e i (by omega)), e n (by omega)]
theorem pre_len {h : Nat → List UInt8} (c : Nat) (hc : ∀ i, (h i).length ≤ c) : ∀ n, (pre h n).length ≤ c * n
  | 0 => Nat.zero_le _
  | n + 1 => by
    rw [pre_succ, List.length_append, Nat.mul_succ]
    have := pre_len c hc n
    have := hc n
    omega
theorem pre_mem {h : Nat → List UInt8} {x : UInt8} : ∀ {n}, x ∈ pre h n ↔ ∃ i, i < n ∧ x ∈ h i := by
  intro n
  simp [pre]

def suf (h : Nat → List UInt8) (n b : Nat) : List UInt8 := pre (fun i => h (b + i)) (n - b)
theorem pre_suf (h : Nat → List UInt8) {n b : Nat} (hb : b ≤ n) : pre h n = pre h b ++ suf h n b := by
  rw [suf, ← pre_add]
  congr 1
  omega
theorem suf_end (h : Nat → List UInt8) (n : Nat) : suf h n n = [] := by rw [suf, Nat.sub_self]; rfl

/-- A byte of a set; and what a byte of a set puts into its text: the middle of a row of three or more puts nothing. -/
def cellB (g : Nat → UInt8) (f : Nat → Bool) (i : Nat) : List UInt8 := if f i then [g i] else []
def cellT (g : Nat → UInt8) (f : Nat → Bool) (i : Nat) : List UInt8 :=
  if f i then (if (decide (0 < i) && f (i - 1)) && f (i + 1) then [] else if f (i + 1) && f (i + 2) then [g i, 45] else [g i]) else []
theorem cellB_len (g : Nat → UInt8) (f : Nat → Bool) (i : Nat) : (cellB g f i).length ≤ 1 := by unfold cellB; split <;> simp
theorem cellT_len (g : Nat → UInt8) (f : Nat → Bool) (i : Nat) : (cellT g f i).length ≤ 2 := by
  unfold cellT
  split
  · split
    · simp
    · split <;> simp
  · simp
theorem cellT_none {g : Nat → UInt8} {f : Nat → Bool} {i : Nat} (h : f i = false) : cellT g f i = [] := by simp [cellT, h]
theorem cellB_none {g : Nat → UInt8} {f : Nat → Bool} {i : Nat} (h : f i = false) : cellB g f i = [] := by simp [cellB, h]
theorem cellB_yes {g : Nat → UInt8} {f : Nat → Bool} {i : Nat} (h : f i = true) : cellB g f i = [g i] := by simp [cellB, h]

/-- A row of three or more. -/
theorem pre_row (g : Nat → UInt8) (f : Nat → Bool) {b e : Nat} (hrun : ∀ i, b ≤ i → i ≤ e → f i = true) (hlong : b + 2 ≤ e) (hb : 0 < b → f (b - 1) = false) (he : f (e + 1) = false) :
    pre (cellT g f) (e + 1) = pre (cellT g f) b ++ [g b, 45, g e] := by
  have c1 : cellT g f b = [g b, 45] := by
    have h1 : (decide (0 < b) && f (b - 1)) = false := by
      by_cases h0 : 0 < b
      · simp [hb h0]
      · simp [h0]
    simp [cellT, hrun b (by omega) (by omega), h1, hrun (b + 1) (by omega) (by omega), hrun (b + 2) (by omega) (by omega)]
  have c2 : cellT g f e = [g e] := by simp [cellT, hrun e (by omega) (by omega), he]
  have c3 : pre (cellT g f) e = pre (cellT g f) (b + 1) := pre_skip' _ (by omega) fun i h1 h2 => by
    simp [cellT, hrun i (by omega) (by omega), hrun (i - 1) (by omega) (by omega), hrun (i + 1) (by omega) (by omega), (by omega : 0 < i)]
  rw [pre_succ, c3, pre_succ, c1, c2, List.append_assoc]
  rfl
/-- A byte alone, or one of two. -/
theorem pre_one (g : Nat → UInt8) (f : Nat → Bool) {b : Nat} (hb : f b = true) (h1 : (f (b + 1) && f (b + 2)) = false) (h2 : ((decide (0 < b) && f (b - 1)) && f (b + 1)) = false) :
    pre (cellT g f) (b + 1) = pre (cellT g f) b ++ [g b] := by
  rw [pre_succ]
  congr 1
  rw [cellT, if_pos hb, if_neg (by rw [h2]; decide), if_neg (by rw [h1]; decide)]

def textB (f : Nat → Bool) : List UInt8 := pre (cellT UInt8.ofNat f) 256
def bytesB (f : Nat → Bool) : List UInt8 := pre (cellB UInt8.ofNat f) 256
def ofBit (i : Nat) : UInt8 := UInt8.ofNat (byteP i)

/-- Bytes by their bits. -/
theorem flat_bridge (h k : Nat → List UInt8) (hz : ∀ b, okb b = false → h b = []) (kz : ∀ i, valid i = false → k i = []) (hk : ∀ i, valid i = true → k i = h (byteP i)) : pre h 256 = pre k 64 := by
  have no : ∀ b, ¬ ((97 ≤ b ∧ b ≤ 122) ∨ (48 ≤ b ∧ b ≤ 57)) → h b = [] := fun b hb => hz b ((okb_not b).2 hb)
  have nk : ∀ i, ¬ (i < 10 ∨ (16 ≤ i ∧ i < 42)) → k i = [] := fun i hi => kz i (by rw [Bool.eq_false_iff, ne_eq, valid_iff]; exact hi)
  rw [pre_skip' h (p := 123) (k := 256) (by omega) (fun i _ _ => no i (by omega)), show (123 : Nat) = 97 + 26 from rfl, pre_add, pre_skip' h (p := 58) (k := 97) (by omega) (fun i _ _ => no i (by omega)),
    show (58 : Nat) = 48 + 10 from rfl, pre_add, pre_skip' h (p := 0) (k := 48) (by omega) (fun i _ _ => no i (by omega)), pre_zero, List.nil_append,
    pre_skip' k (p := 42) (k := 64) (by omega) (fun i _ _ => nk i (by omega)), show (42 : Nat) = 16 + 26 from rfl, pre_add, pre_skip' k (p := 10) (k := 16) (by omega) (fun i _ _ => nk i (by omega))]
  congr 1
  · refine (pre_congr 10 fun i hi => ?_).symm
    rw [hk i ((valid_iff i).2 (by omega)), byteP, if_pos (by omega)]
  · refine (pre_congr 26 fun i hi => ?_).symm
    rw [hk (16 + i) ((valid_iff _).2 (by omega)), byteP, if_neg (by omega)]
    congr 1
    omega

def Sup (f : Nat → Bool) : Prop := ∀ b, f b = true → okb b = true
theorem Sup.no {f : Nat → Bool} (h : Sup f) {b : Nat} (hb : okb b = false) : f b = false := by
  cases hf : f b with
  | false => rfl
  | true => rw [h b hf] at hb; cases hb
theorem rep_near {m : Nat} {f : Nat → Bool} (h : Rep m f) (hs : Sup f) {i : Nat} (hv : valid i = true) (d : Nat) (hd : d ≤ 2) : m.testBit (i + d) = f (byteP i + d) := by
  rw [h]
  rw [valid_iff] at hv
  by_cases hw : valid (i + d) = true
  · rw [hw, Bool.true_and]
    rw [valid_iff] at hw
    congr 1
    unfold byteP
    split <;> split <;> omega
  · rw [Bool.not_eq_true] at hw
    rw [hw, Bool.false_and]
    refine (hs.no ?_).symm
    rw [Bool.eq_false_iff, ne_eq, valid_iff] at hw
    rw [okb_not]
    unfold byteP
    split <;> omega
theorem rep_prev {m : Nat} {f : Nat → Bool} (h : Rep m f) (hs : Sup f) {i : Nat} (hv : valid i = true) : (decide (0 < i) && m.testBit (i - 1)) = f (byteP i - 1) := by
  rw [h]
  rw [valid_iff] at hv
  by_cases h0 : 0 < i
  · rw [decide_eq_true h0, Bool.true_and]
    by_cases hw : valid (i - 1) = true
    · rw [hw, Bool.true_and]
      rw [valid_iff] at hw
      congr 1
      unfold byteP
      split <;> split <;> omega
    · rw [Bool.not_eq_true] at hw
      rw [hw, Bool.false_and]
      refine (hs.no ?_).symm
      rw [Bool.eq_false_iff, ne_eq, valid_iff] at hw
      rw [okb_not]
      unfold byteP
      split <;> omega
  · rw [decide_eq_false h0, Bool.false_and]
    obtain rfl : i = 0 := by omega
    exact (hs.no (by decide)).symm
theorem rep_invalid {m : Nat} {f : Nat → Bool} (h : Rep m f) {i : Nat} (hv : valid i = false) : m.testBit i = false := by rw [h, hv, Bool.false_and]

theorem text_bridge {m : Nat} {f : Nat → Bool} (h : Rep m f) (hs : Sup f) : textB f = pre (cellT ofBit m.testBit) 64 := by
  refine flat_bridge _ _ (fun b hb => cellT_none (hs.no hb)) (fun i hi => cellT_none (rep_invalid h hi)) fun i hi => ?_
  have n0 := rep_near h hs hi 0 (by omega)
  have n1 := rep_near h hs hi 1 (by omega)
  have n2 := rep_near h hs hi 2 (by omega)
  have np := rep_prev h hs hi
  simp only [Nat.add_zero] at n0
  have hp : decide (0 < byteP i) = true := by
    apply decide_eq_true
    unfold byteP
    split <;> omega
  simp only [cellT, n0, n1, n2, np, hp, Bool.true_and, ofBit]
theorem bytes_bridge {m : Nat} {f : Nat → Bool} (h : Rep m f) (hs : Sup f) : bytesB f = pre (cellB ofBit m.testBit) 64 := by
  refine flat_bridge _ _ (fun b hb => cellB_none (hs.no hb)) (fun i hi => cellB_none (rep_invalid h hi)) fun i hi => ?_
  have n0 := rep_near h hs hi 0 (by omega)
  simp only [Nat.add_zero] at n0
  simp only [cellB, n0, ofBit]

/- The lowest bit, and how long a row of bits is. -/
theorem ctz_low {m : Nat} (h0 : m ≠ 0) (h : m < 18446744073709551616) : m.testBit (Lib.ctz 64 m) = true ∧ Lib.ctz 64 m < 64 ∧ ∀ i, i < Lib.ctz 64 m → m.testBit i = false := by
  have h1 : Lib.ctz 64 m = Lib.ctzFrom 64 m := by rw [Lib.ctz, if_neg h0]
  rw [h1]
  obtain ⟨q, hq, hk⟩ := Lib.ctzFrom_spec 64 m (by omega) (by simpa using h)
  generalize Lib.ctzFrom 64 m = k at *
  refine ⟨?_, hk, fun i hi => ?_⟩
  · rw [hq, Nat.mul_comm, Nat.testBit_mul_two_pow]
    simp
  · rw [hq, Nat.mul_comm, Nat.testBit_mul_two_pow, decide_eq_false (by omega : ¬ k ≤ i), Bool.false_and]

theorem ctz_run {m k : Nat} (hm : m < 4398046511104) (hk : m.testBit k = true) : ∃ n, Lib.ctz 64 (18446744073709551615 - m / 2 ^ k) = n + 1 ∧ n + 1 < 64 ∧ (∀ j, j ≤ n → m.testBit (k + j) = true) ∧ m.testBit (k + (n + 1)) = false := by
  have hx : m / 2 ^ k < 4398046511104 := Nat.lt_of_le_of_lt (Nat.div_le_self _ _) hm
  have hs : ∀ i, (m / 2 ^ k).testBit i = m.testBit (k + i) := fun i => by rw [Nat.testBit_div_two_pow, Nat.add_comm]
  generalize m / 2 ^ k = x at *
  have hbit : ∀ i, (18446744073709551615 - x).testBit i = (decide (i < 64) && !m.testBit (k + i)) := fun i => by
    have e64 : (2 : Nat) ^ 64 = 18446744073709551616 := by decide
    have e : 18446744073709551615 - x = 2 ^ 64 - (x + 1) := by rw [e64]; omega
    rw [e, Nat.testBit_two_pow_sub_succ (by rw [e64]; omega), hs]
  obtain ⟨h1, h2, h3⟩ := ctz_low (m := 18446744073709551615 - x) (by omega) (by omega)
  generalize Lib.ctz 64 (18446744073709551615 - x) = c at *
  rw [hbit] at h1
  match c, h1, h2, h3 with
  | 0, h1, _, _ => simp [hk] at h1
  | n + 1, h1, h2, h3 =>
    refine ⟨n, rfl, h2, fun j hj => ?_, by simpa [h2] using h1⟩
    have h4 := h3 j (by omega)
    rw [hbit] at h4
    simpa [(by omega : j < 64)] using h4

/-- What is told of a set. -/
def toldP (f : Nat → Bool) : List UInt8 × Bool := if okL (textB f) then (textB f, true) else ([], false)
def memB (l : List UInt8) (x : Nat) : Bool := l.any fun u => u.toNat == x
def setOfP (l : List UInt8) : List UInt8 × Bool := if (l.all fun u => okb u.toNat) = true then toldP (memB l) else ([], false)
def joinP (a b : List UInt8) : List UInt8 × Bool := if (okL a && okL b) = true then toldP (fun x => inL a x || inL b x) else ([], false)
def meetP (a b : List UInt8) : List UInt8 × Bool := if (okL a && okL b) = true then toldP (fun x => inL a x && inL b x) else ([], false)
def pairV (p : List UInt8 × Bool) : Value := .tuple #[.string (str p.1), .bool p.2]

theorem text_none {f : Nat → Bool} (h : ∀ x, f x = false) : textB f = [] := pre_skip' (p := 0) _ (Nat.zero_le _) fun i _ _ => cellT_none (h i)
theorem told_none {f : Nat → Bool} (h : ∀ x, f x = false) : toldP f = ([], false) := by
  rw [toldP, text_none h]
  rfl
theorem meet_any (a b : List UInt8) : meetP a b = toldP (fun x => inL a x && inL b x) := by
  unfold meetP
  split
  · rfl
  · rename_i h
    refine (told_none fun x => ?_).symm
    cases ha : okL a with
    | false => simp [inL, ha]
    | true =>
      cases hb : okL b with
      | false => simp [inL, hb]
      | true => exact absurd (by rw [ha, hb]; rfl) h

theorem mem_bytes {f : Nat → Bool} (hs : Sup f) : memB (bytesB f) = f := by
  funext x
  rw [memB, Bool.eq_iff_iff, List.any_eq_true]
  constructor
  · rintro ⟨u, hu, hx⟩
    obtain ⟨i, hi, hm⟩ := pre_mem.1 hu
    unfold cellB at hm
    split at hm
    · rename_i hf
      obtain rfl := List.mem_singleton.1 hm
      rw [beq_iff_eq, toNat_ofNat i hi] at hx
      rw [← hx]; exact hf
    · cases hm
  · intro hf
    have ho := (okb_iff x).1 (hs x hf)
    exact ⟨UInt8.ofNat x, pre_mem.2 ⟨x, by omega, by simp [cellB, hf]⟩, by rw [toNat_ofNat x (by omega)]; simp⟩
theorem bytes_ok {f : Nat → Bool} (hs : Sup f) : (bytesB f).all (fun u => okb u.toNat) = true := by
  rw [List.all_eq_true]
  intro u hu
  obtain ⟨i, hi, hm⟩ := pre_mem.1 hu
  unfold cellB at hm
  split at hm
  · rename_i hf
    obtain rfl := List.mem_singleton.1 hm
    rw [toNat_ofNat i hi]
    exact hs i hf
  · cases hm
theorem memB_app (l m : List UInt8) : memB (l ++ m) = fun x => memB l x || memB m x := by funext x; simp [memB]
theorem memB_sup {l : List UInt8} (h : (l.all fun u => okb u.toNat) = true) : Sup (memB l) := by
  intro b hb
  rw [memB, List.any_eq_true] at hb
  obtain ⟨u, hu, hx⟩ := hb
  rw [beq_iff_eq] at hx
  rw [← hx]
  exact List.all_eq_true.1 h u hu
theorem inL_sup (l : List UInt8) : Sup (inL l) := fun _ h => inL_okb h
theorem Sup.or {f g : Nat → Bool} (h : Sup f) (k : Sup g) : Sup fun x => f x || g x := fun b hb => by
  rw [Bool.or_eq_true] at hb
  exact hb.elim (h b) (k b)
theorem Sup.and {f g : Nat → Bool} (h : Sup f) (_ : Sup g) : Sup fun x => f x && g x := fun b hb => by
  rw [Bool.and_eq_true] at hb
  exact h b hb.1
theorem text_len (f : Nat → Bool) : (textB f).length ≤ 512 := pre_len 2 (cellT_len _ _) 256
theorem bytes_len (f : Nat → Bool) : (bytesB f).length ≤ 256 := by
  have := pre_len 1 (cellB_len UInt8.ofNat f) 256
  rw [Nat.one_mul] at this
  exact this

end Go.Proofs.YtofpoiccghpliaaGreatDoor

namespace Go.Proofs.YtofpoiccghpliaaGreatDoor
open Go.RowKit

def kindP (b : Nat) : Int := if 48 ≤ b ∧ b ≤ 57 then 1 else if 97 ≤ b ∧ b ≤ 122 then 2 else 0

theorem kind_any (b : Nat) (hb : b < 256) (w : World) :
    Calls Tryz.prog 84 #[.int .u8 b] w fun e w' => e = .returned (.int .i64 (kindP b)) ∧ w' = w := by
  by_cases h1 : 48 ≤ b ∧ b ≤ 57
  · have HV : Hid (kindP b = 1) := by simp only [Hid, kindP, if_pos h1]
    obtain ⟨h1, h2⟩ := h1
    go_enter Tryz.func84, Tryz.ntmps84
    go_wp2
    go_ret
    rw [HV.out]
    exact ⟨rfl, rfl⟩
  · by_cases h2 : 97 ≤ b ∧ b ≤ 122
    · have HV : Hid (kindP b = 2) := by simp only [Hid, kindP, if_neg h1, if_pos h2]
      obtain ⟨h2, h3⟩ := h2
      clear h1
      go_enter Tryz.func84, Tryz.ntmps84
      go_wp2
      go_ret
      rw [HV.out]
      exact ⟨rfl, rfl⟩
    · have HV : Hid (kindP b = 0) := by simp only [Hid, kindP, if_neg h1, if_neg h2]
      by_cases h3 : b < 48
      · go_enter Tryz.func84, Tryz.ntmps84
        go_wp2
        go_ret
        rw [HV.out]
        exact ⟨rfl, rfl⟩
      · by_cases h4 : b < 97
        · have h5 : 57 < b := by omega
          go_enter Tryz.func84, Tryz.ntmps84
          go_wp2
          go_ret
          rw [HV.out]
          exact ⟨rfl, rfl⟩
        · have h5 : 122 < b := by omega
          go_enter Tryz.func84, Tryz.ntmps84
          go_wp2
          go_ret
          rw [HV.out]
          exact ⟨rfl, rfl⟩

end Go.Proofs.YtofpoiccghpliaaGreatDoor
