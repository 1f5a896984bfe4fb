/- What is read where a number stands in bytes: the plain mathematics, with no program in it. -/
import Derived.Test.YtocccahgccoimaaDoorKit
namespace Go.Proofs.YtocccahgccoimaaDoor
open Go.RowKit

/-- The number that bytes tell: seven bits each, the lowest first. -/
def valB : List UInt8 → Nat
  | [] => 0
  | b :: r => b.toNat % 128 + 128 * valB r

theorem valB_snoc : ∀ (l : List UInt8) (b : UInt8), valB (l ++ [b]) = valB l + b.toNat % 128 * 128 ^ l.length
  | [], b => by simp [valB]
  | x :: l, b => by
    rw [List.cons_append, valB, valB_snoc l b, valB, List.length_cons, Nat.pow_succ]
    rw [Nat.mul_add, Nat.mul_comm (128 ^ l.length) 128, ← Nat.mul_assoc 128, Nat.mul_comm 128 (b.toNat % 128), Nat.mul_assoc, Nat.add_assoc]

theorem valB_lt : ∀ l : List UInt8, valB l < 128 ^ l.length
  | [] => by simp [valB]
  | b :: l => by
    have := valB_lt l
    rw [valB, List.length_cons, Nat.pow_succ]
    omega

/-- The bytes up to the first one below 128, of at most so many. -/
def headB : Nat → List UInt8 → Option (List UInt8)
  | 0, _ => none
  | _ + 1, [] => none
  | f + 1, b :: r => if b.toNat < 128 then some [b] else (headB f r).map (b :: ·)

/-- What is read: the number, and how many bytes it takes. -/
def readB (l : List UInt8) : Option (Nat × Nat) :=
  match headB 5 l with
  | none => none
  | some bs => if 1000000000 < valB bs ∨ varB (valB bs) ≠ bs then none else some (valB bs, bs.length)

/-- Behind some rounds, up to the place j. -/
def RvRel (L : List UInt8) (a j n sc : Nat) : Prop :=
  ∃ pre rest : List UInt8, L.drop a = pre ++ rest ∧ a + pre.length = j ∧ n = valB pre ∧ sc = 128 ^ pre.length ∧ pre.length ≤ 5 ∧
    (∀ b ∈ pre, 128 ≤ b.toNat) ∧ headB 5 (L.drop a) = (headB (5 - pre.length) rest).map (pre ++ ·)

theorem rv_start (L : List UInt8) (a : Nat) : RvRel L a a 0 1 :=
  ⟨[], L.drop a, rfl, rfl, rfl, rfl, by simp, by simp, by simp⟩

theorem rv_bounds {L : List UInt8} {a j n sc : Nat} (h : RvRel L a j n sc) (ha : a ≤ L.length) :
    a ≤ j ∧ j ≤ a + 5 ∧ j ≤ L.length ∧ 1 ≤ sc ∧ n < sc ∧ (j < a + 5 → sc ≤ 268435456) ∧ (j = a + 5 → sc = 34359738368) := by
  obtain ⟨pre, rest, h1, h2, h3, h4, h5, _, _⟩ := h
  have hl := congrArg List.length h1
  rw [List.length_drop, List.length_append] at hl
  have hv := valB_lt pre
  rw [← h3, ← h4] at hv
  refine ⟨by omega, by omega, by omega, by omega, hv, fun hj => ?_, fun hj => ?_⟩
  · rw [h4]
    have : pre.length ≤ 4 := by omega
    calc 128 ^ pre.length ≤ 128 ^ 4 := Nat.pow_le_pow_right (by decide) this
      _ = 268435456 := by decide
  · rw [h4, show pre.length = 5 by omega]

theorem rest_at {L pre rest : List UInt8} {a j : Nat} (h1 : L.drop a = pre ++ rest) (h2 : a + pre.length = j) (hj : j < L.length) : rest = L[j] :: rest.tail := by
  have e : rest = L.drop j := by
    have := congrArg (List.drop pre.length) h1
    rw [List.drop_drop, List.drop_left] at this
    rw [← this, h2]
  rw [e, List.drop_eq_getElem_cons hj]
  simp

theorem rv_step {L : List UInt8} {a j n sc : Nat} (h : RvRel L a j n sc) (hj : j < L.length) (hk : j < a + 5) (hb : 128 ≤ L[j].toNat) :
    RvRel L a (j + 1) (n + L[j].toNat % 128 * sc) (sc * 128) := by
  obtain ⟨pre, rest, h1, h2, h3, h4, h5, h6, h7⟩ := h
  have hr := rest_at h1 h2 hj
  refine ⟨pre ++ [L[j]], rest.tail, ?_, ?_, ?_, ?_, ?_, ?_, ?_⟩
  · rw [h1, List.append_assoc, List.singleton_append, ← hr]
  · rw [List.length_append, List.length_singleton]; omega
  · rw [valB_snoc, h3, h4]
  · rw [h4, List.length_append, List.length_singleton, Nat.pow_succ]
  · rw [List.length_append, List.length_singleton]; omega
  · intro b hm
    rcases List.mem_append.1 hm with h | h
    · exact h6 b h
    · rw [List.mem_singleton.1 h]; exact hb
  · rw [h7, hr]
    rw [show 5 - pre.length = (5 - (pre ++ [L[j]]).length) + 1 by rw [List.length_append, List.length_singleton]; omega]
    rw [headB, if_neg (by omega)]
    simp [Option.map_map, Function.comp_def]

theorem rv_none {L : List UInt8} {a j n sc : Nat} (h : RvRel L a j n sc) (hj : L.length ≤ j ∨ a + 5 ≤ j) : readB (L.drop a) = none := by
  obtain ⟨pre, rest, h1, h2, _, _, h5, _, h7⟩ := h
  have hn : headB (5 - pre.length) rest = none := by
    rcases hj with hj | hj
    · have hl := congrArg List.length h1
      rw [List.length_drop, List.length_append] at hl
      have : rest = [] := List.length_eq_zero_iff.1 (by omega)
      subst this
      cases 5 - pre.length <;> rfl
    · rw [show 5 - pre.length = 0 by omega]; rfl
  rw [readB, h7, hn]
  rfl

/-- Bytes of which all but the last are above 127, and the last not needless, are the bytes of the number that they tell. -/
theorem varB_valB : ∀ (pre : List UInt8) (b : UInt8), (∀ x ∈ pre, 128 ≤ x.toNat) → b.toNat < 128 → (pre = [] ∨ b.toNat ≠ 0) →
    varB (valB (pre ++ [b])) = pre ++ [b] ∧ (pre ≠ [] → 0 < valB (pre ++ [b]))
  | [], b, _, hb, _ => by
    refine ⟨?_, fun h => absurd rfl h⟩
    rw [List.nil_append, valB, valB, varB_last _ (by omega), show b.toNat % 128 + 128 * 0 = b.toNat by omega]
    simp
  | x :: pre, b, hx, hb, h => by
    have hx0 := hx x (by simp)
    have hx1 := x.toNat_lt
    have hb0 : b.toNat ≠ 0 := by
      rcases h with h | h
      · exact absurd h (by simp)
      · exact h
    have ih := varB_valB pre b (fun y hy => hx y (by simp [hy])) hb (.inr hb0)
    have hpos : 0 < valB (pre ++ [b]) := by
      cases pre with
      | nil => rw [List.nil_append, valB, valB]; omega
      | cons y r => exact ih.2 (by simp)
    rw [List.cons_append, valB]
    refine ⟨?_, fun _ => by omega⟩
    rw [varB_more _ (by omega), show (x.toNat % 128 + 128 * valB (pre ++ [b])) / 128 = valB (pre ++ [b]) by omega, ih.1,
      show (x.toNat % 128 + 128 * valB (pre ++ [b])) % 128 + 128 = x.toNat by omega]
    simp

theorem varB_end (n : Nat) : ∃ pre : List UInt8, ∃ b : UInt8, varB n = pre ++ [b] ∧ (pre = [] ∨ b.toNat ≠ 0) := by
  induction n using Nat.strongRecOn with
  | ind n ih =>
    by_cases h : 127 < n
    · obtain ⟨pre, b, hb, hp⟩ := ih (n / 128) (by omega)
      refine ⟨UInt8.ofNat (n % 128 + 128) :: pre, b, by rw [varB_more n h, hb]; rfl, .inr ?_⟩
      rcases hp with rfl | hp
      · by_cases h2 : 127 < n / 128
        · rw [varB_more _ h2] at hb
          have := congrArg List.length hb
          have h3 := varB_pos (n / 128 / 128)
          simp at this
          simp [this] at h3
        · rw [varB_last _ (by omega)] at hb
          have hb' : b = UInt8.ofNat (n / 128) := by simpa using hb.symm
          rw [hb', toNat_ofNat _ (by omega)]
          omega
      · exact hp
    · exact ⟨[], UInt8.ofNat n, by rw [varB_last n (by omega)]; rfl, .inl rfl⟩

theorem rv_end {L : List UInt8} {a j n sc : Nat} (h : RvRel L a j n sc) (hj : j < L.length) (hk : j < a + 5) (hb : L[j].toNat < 128) :
    (varB (n + L[j].toNat % 128 * sc) = (L.drop a).take (j + 1 - a) ↔ ¬ (L[j].toNat = 0 ∧ a < j)) ∧
    readB (L.drop a) = if 1000000000 < n + L[j].toNat % 128 * sc ∨ (L[j].toNat = 0 ∧ a < j) then none else some (n + L[j].toNat % 128 * sc, j + 1 - a) := by
  obtain ⟨pre, rest, h1, h2, h3, h4, h5, h6, h7⟩ := h
  have hr := rest_at h1 h2 hj
  have hv : n + L[j].toNat % 128 * sc = valB (pre ++ [L[j]]) := by rw [valB_snoc, h3, h4]
  have hh : headB 5 (L.drop a) = some (pre ++ [L[j]]) := by
    rw [h7, hr, show 5 - pre.length = (4 - pre.length) + 1 by omega, headB, if_pos hb]
    rfl
  have ht : (L.drop a).take (j + 1 - a) = pre ++ [L[j]] := by
    rw [h1, hr, show j + 1 - a = pre.length + 1 by omega]
    rw [List.take_length_add_append]
    simp
  have key : varB (valB (pre ++ [L[j]])) = pre ++ [L[j]] ↔ ¬ (L[j].toNat = 0 ∧ a < j) := by
    constructor
    · intro e ⟨h0, haj⟩
      obtain ⟨p, b, hp, hq⟩ := varB_end (valB (pre ++ [L[j]]))
      rw [e] at hp
      obtain ⟨e1, e2⟩ := List.append_inj' hp rfl
      have e2' : L[j] = b := by simpa using e2
      rcases hq with hq | hq
      · rw [← e1] at hq
        subst hq
        simp at h2
        omega
      · rw [← e2'] at hq; exact hq h0
    · intro hn
      refine (varB_valB pre L[j] h6 hb ?_).1
      by_cases h0 : L[j].toNat = 0
      · left
        have : ¬ a < j := fun h => hn ⟨h0, h⟩
        exact List.length_eq_zero_iff.1 (by omega)
      · exact .inr h0
  refine ⟨by rw [hv, ht]; exact key, ?_⟩
  rw [readB, hh, hv]
  simp only [List.length_append, List.length_singleton]
  rw [show pre.length + 1 = j + 1 - a by omega]
  by_cases hc : L[j].toNat = 0 ∧ a < j
  · have : varB (valB (pre ++ [L[j]])) ≠ pre ++ [L[j]] := fun e => key.1 e hc
    simp [hc, this]
  · have := key.2 hc
    simp [hc, this]

/-- What reading a number answers: the number, the place behind it, and whether there is one. -/
def rvOut (L : List UInt8) (a : Int) : Int × Int × Bool :=
  if 0 ≤ a ∧ a ≤ L.length then
    match readB (L.drop a.toNat) with
    | none => (0, 0, false)
    | some (n, k) => ((n : Int), a + k, true)
  else (0, 0, false)

theorem rvOut_out (L : List UInt8) (a : Int) (h : a < 0 ∨ L.length < a) : rvOut L a = (0, 0, false) := by
  rw [rvOut, if_neg (by omega)]

theorem rvOut_none {L : List UInt8} {a : Nat} (h : readB (L.drop a) = none) : rvOut L a = (0, 0, false) := by
  rw [rvOut, Int.toNat_natCast, h]
  split <;> rfl

theorem rvOut_some {L : List UInt8} {a n k : Nat} (ha : a ≤ L.length) (h : readB (L.drop a) = some (n, k)) : rvOut L a = ((n : Int), (a : Int) + k, true) := by
  rw [rvOut, Int.toNat_natCast, h, if_pos (by omega)]

end Go.Proofs.YtocccahgccoimaaDoor
