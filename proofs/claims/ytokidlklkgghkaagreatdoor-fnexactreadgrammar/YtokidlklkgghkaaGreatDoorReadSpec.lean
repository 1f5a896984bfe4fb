/- The bytes of a number: what the two functions that write a number answer, at every number of 0 .. 1000000000. -/
/- What is read where a number stands in bytes: the plain mathematics, with no program in it. -/
/- What the two functions that read a number answer: at every text and every place, rvOut. The text's length is at most the greatest int. -/
/- What the specification's function that reads a number answers: at every text of at most 1048576 bytes and every place, rvOut. -/
import Derived.Test.YtokidlklkgghkaaGreatDoorRows
import Derived.Test.YtokidlklkgghkaaGreatDoorEnvGet
import Derived.Deep.RegionHeld3
namespace Go.Proofs.YtokidlklkgghkaaGreatDoor
open Go.RowKit

theorem Tryz.info5 : (Tryz.prog.info? 5).map (fun i => (i.zero, i.size, i.bytes)) = some (some (.int .u8 0), 1, 1) := by kernel_rfl

/-- What holds at each round's head: pre is written, m is left. -/
def VarRel (n base : Nat) (w : World) (nv out : Value) (wr : World) : Prop :=
  ∃ (m : Nat) (pre : List UInt8), nv = .int .i64 m ∧ m ≤ n ∧ pre ++ varB m = varB n ∧ wr.ownsRow base 5 1 out pre.length (bv pre) ∧ Below base w wr ∧ base ≤ wr.heap.size

theorem varRel_step {n base m : Nat} {pre : List UInt8} {w wr w1 : World} {out v' : Value} (hm : 127 < m) (hmn : m ≤ n) (hp : pre ++ varB m = varB n)
    (hown : wr.ownsRow base 5 1 out pre.length (bv pre)) (hbel : Below base w wr) (hsz : base ≤ wr.heap.size) {o : Obj}
    (hown' : w1.ownsRow base 5 1 v' (pre.length + 1) (bv pre ++ [.int .u8 ((m : Int) % 128 + 128)])) (hgrow : (wr.alloc o).grownBy w1 out.ownBlock) :
    VarRel n base w (.int .i64 ((m : Int) / 128)) v' w1 := by
  refine ⟨m / 128, pre ++ [UInt8.ofNat (m % 128 + 128)], by simp, by omega, ?_, ?_, ?_, ?_⟩
  · rw [← hp, varB_more m hm]; simp
  · rw [bv_app, bv_one, toNat_ofNat _ (by omega), List.length_append]
    simpa using hown'
  · exact (hbel.alloc hsz o).grown hgrow (by simp; omega) (fun k hk => (hown.lt k hk).1)
  · have := hgrow.size; simp at this; omega

theorem varRel_end {n base m : Nat} {pre : List UInt8} {w wr w1 : World} {out v' : Value} (hm : m ≤ 127) (hp : pre ++ varB m = varB n)
    (hown : wr.ownsRow base 5 1 out pre.length (bv pre)) (hbel : Below base w wr) (hsz : base ≤ wr.heap.size) {o : Obj}
    (hown' : w1.ownsRow base 5 1 v' (pre.length + 1) (bv pre ++ [.int .u8 (m : Int)])) (hgrow : (wr.alloc o).grownBy w1 out.ownBlock) :
    w1.ownsRow base 5 1 v' (varB n).length (bv (varB n)) ∧ Below base w w1 := by
  refine ⟨?_, ?_⟩
  · rw [← hp, varB_last m hm, bv_app, bv_one, toNat_ofNat _ (by omega), List.length_append]
    simpa using hown'
  · exact (hbel.alloc hsz o).grown hgrow (by simp; omega) (fun k hk => (hown.lt k hk).1)

set_option maxHeartbeats 400000 in
set_option maxRecDepth 100000 in
theorem l01Var_any (n : Nat) (w : World) (hn : n ≤ 1000000000) :
    Calls Tryz.prog 30 #[.int .i64 n] w fun e w' => e = .returned (.string (str (varB n))) ∧ Below w.heap.size w w' := by
  obtain ⟨i0, hi, hz0, hz1, hz2⟩ := info_parts Tryz.info5
  go_enter Tryz.func30, Tryz.ntmps30
  go_wp2
  go_loopw [0, 3] (fun nv out wr => VarRel n w.heap.size w nv out wr) (fun nv _ _ => (intOf nv).toNat)
  case atStart => exact ⟨n, [], rfl, Nat.le_refl _, rfl, World.ownsRow_made _ _ _ (Nat.le_refl _) (by decide) rfl, (Below.refl _ _).alloc (Nat.le_refl _) _, by simp⟩
  case round =>
    obtain ⟨m, pre, rfl, hmn, hp, hown, hbel, hsz⟩ := hrel
    have hlen : pre.length ≤ 1000000001 := by
      have h1 := varB_len n
      have h2 := congrArg List.length hp
      rw [List.length_append] at h2
      omega
    have HP : Hid (pre ++ varB m = varB n) := hp
    clear hp
    by_cases hm : 127 < m
    · go_wp2_with (at_builtin; refine wpList_append_own _ rfl _ _ 72 rfl w.heap.size 5 i0 (.int .u8 0) 1 1 Tryz.underlying72 hi hz0 hz1 hz2 rfl (by decide) _ _ _ rfl (hown.alloc _) ⟨wr.heap.size, 0, none⟩ 1 1 [.int .u8 ((m : Int) % 128 + 128)] rfl rfl (one_at _ _ _) (one_cell _ _) (by unfold maxLen; omega) (by omega) (by simp; omega) ?_)
      intro v' w1 hown' hgrow _
      have R := varRel_step hm hmn HP.out hown hbel hsz hown' hgrow
      clear hown' hgrow hown hbel
      go_wp2
      go_roundw
      case rel => exact R
      case measure => simp [intOf]; omega
    · go_wp2_with (at_builtin; refine wpList_append_own _ rfl _ _ 72 rfl w.heap.size 5 i0 (.int .u8 0) 1 1 Tryz.underlying72 hi hz0 hz1 hz2 rfl (by decide) _ _ _ rfl (hown.alloc _) ⟨wr.heap.size, 0, none⟩ 1 1 [.int .u8 (m : Int)] rfl rfl (one_at _ _ _) (one_cell _ _) (by unfold maxLen; omega) (by omega) (by simp; omega) ?_)
      intro v' w1 hown' hgrow _
      have hfin := varRel_end (by omega) HP.out hown hbel hsz hown' hgrow
      have hcv := own_string (P := Tryz.prog) (dst := 9) (varB n) Tryz.underlying72 Tryz.underlying5 Tryz.underlying9 hfin.1
      go_wp2
      go_ret
      exact ⟨rfl, hfin.2⟩

set_option maxHeartbeats 400000 in
set_option maxRecDepth 100000 in
theorem implVar_yes (n : Nat) (w : World) (hn : n ≤ 1000000000) :
    Calls Tryz.prog 87 #[.int .i64 n] w fun e w' => e = .returned (.tuple #[.string (str (varB n)), .bool true]) ∧ Below w.heap.size w w' := by
  obtain ⟨i0, hi, hz0, hz1, hz2⟩ := info_parts Tryz.info5
  go_enter Tryz.func87, Tryz.ntmps87
  go_wp2
  go_loopw [0, 4] (fun nv out wr => VarRel n w.heap.size w nv out wr) (fun nv _ _ => (intOf nv).toNat)
  case atStart => exact ⟨n, [], rfl, Nat.le_refl _, rfl, World.ownsRow_nil _ _ _ _, Below.refl _ _, Nat.le_refl _⟩
  case round =>
    obtain ⟨m, pre, rfl, hmn, hp, hown, hbel, hsz⟩ := hrel
    have hlen : pre.length ≤ 1000000001 := by
      have h1 := varB_len n
      have h2 := congrArg List.length hp
      rw [List.length_append] at h2
      omega
    have HP : Hid (pre ++ varB m = varB n) := hp
    clear hp
    by_cases hm : 127 < m
    · go_wp2_with (at_builtin; refine wpList_append_own _ rfl _ _ 72 rfl w.heap.size 5 i0 (.int .u8 0) 1 1 Tryz.underlying72 hi hz0 hz1 hz2 rfl (by decide) _ _ _ rfl (hown.alloc _) ⟨wr.heap.size, 0, none⟩ 1 1 [.int .u8 ((m : Int) % 128 + 128)] rfl rfl (one_at _ _ _) (one_cell _ _) (by unfold maxLen; omega) (by omega) (by simp; omega) ?_)
      intro v' w1 hown' hgrow _
      have R := varRel_step hm hmn HP.out hown hbel hsz hown' hgrow
      clear hown' hgrow hown hbel
      go_wp2
      go_roundw
      case rel => exact R
      case measure => simp [intOf]; omega
    · go_wp2_with (at_builtin; refine wpList_append_own _ rfl _ _ 72 rfl w.heap.size 5 i0 (.int .u8 0) 1 1 Tryz.underlying72 hi hz0 hz1 hz2 rfl (by decide) _ _ _ rfl (hown.alloc _) ⟨wr.heap.size, 0, none⟩ 1 1 [.int .u8 (m : Int)] rfl rfl (one_at _ _ _) (one_cell _ _) (by unfold maxLen; omega) (by omega) (by simp; omega) ?_)
      intro v' w1 hown' hgrow _
      have hfin := varRel_end (by omega) HP.out hown hbel hsz hown' hgrow
      have hcv := own_string (P := Tryz.prog) (dst := 9) (varB n) Tryz.underlying72 Tryz.underlying5 Tryz.underlying9 hfin.1
      go_wp2
      go_ret2
      exact ⟨rfl, hfin.2⟩

theorem l01Var_int (x : Int) (w : World) (h0 : 0 ≤ x) (h1 : x ≤ 1000000000) :
    Calls Tryz.prog 30 #[.int .i64 x] w fun e w' => e = .returned (.string (str (varB x.toNat))) ∧ Below w.heap.size w w' := by
  obtain ⟨n, rfl⟩ := Int.eq_ofNat_of_zero_le h0
  rw [Int.toNat_natCast]
  exact l01Var_any n w (by omega)

theorem l01In_any (x a b : Int) (w : World) :
    Calls Tryz.prog 54 #[.int .i64 x, .int .i64 a, .int .i64 b] w fun e w' => e = .returned (.bool (decide (a ≤ x ∧ x ≤ b))) ∧ w' = w := by
  by_cases h : a ≤ x
  · by_cases h2 : x ≤ b
    all_goals
      go_enter Tryz.func54, Tryz.ntmps54
      go_wp2
      go_ret
      exact ⟨by simp [h, h2], rfl⟩
  · go_enter Tryz.func54, Tryz.ntmps54
    go_wp2
    go_ret
    exact ⟨by simp; omega, rfl⟩

end Go.Proofs.YtokidlklkgghkaaGreatDoor

namespace Go.Proofs.YtokidlklkgghkaaGreatDoor
open Go.RowKit

/-- The number that bytes tell: seven bits each, the lowest first. -/
def valB : List UInt8 → Nat
  | [] => 0
  | b :: r => b.toNat % 128 + 128 * valB r

theorem valB_snoc : ∀ (l : List UInt8) (b : UInt8), valB (l ++ [b]) = valB l + b.toNat % 128 * 128 ^ l.length
  | [], b => by simp [valB]
  | x :: l, b => by
    rw [List.cons_append, valB, valB_snoc l b, valB, List.length_cons, Nat.pow_succ]
    rw [Nat.mul_add, Nat.mul_comm (128 ^ l.length) 128, ← Nat.mul_assoc 128, Nat.mul_comm 128 (b.toNat % 128), Nat.mul_assoc, Nat.add_assoc]

theorem valB_lt : ∀ l : List UInt8, valB l < 128 ^ l.length
  | [] => by simp [valB]
  | b :: l => by
    have := valB_lt l
    rw [valB, List.length_cons, Nat.pow_succ]
    omega

/-- The bytes up to the first one below 128, of at most so many. -/
def headB : Nat → List UInt8 → Option (List UInt8)
  | 0, _ => none
  | _ + 1, [] => none
  | f + 1, b :: r => if b.toNat < 128 then some [b] else (headB f r).map (b :: ·)

/-- What is read: the number, and how many bytes it takes. -/
def readB (l : List UInt8) : Option (Nat × Nat) :=
  match headB 5 l with
  | none => none
  | some bs => if 1000000000 < valB bs ∨ varB (valB bs) ≠ bs then none else some (valB bs, bs.length)

/-- Behind some rounds, up to the place j. -/
def RvRel (L : List UInt8) (a j n sc : Nat) : Prop :=
  ∃ pre rest : List UInt8, L.drop a = pre ++ rest ∧ a + pre.length = j ∧ n = valB pre ∧ sc = 128 ^ pre.length ∧ pre.length ≤ 5 ∧
    (∀ b ∈ pre, 128 ≤ b.toNat) ∧ headB 5 (L.drop a) = (headB (5 - pre.length) rest).map (pre ++ ·)

theorem rv_start (L : List UInt8) (a : Nat) : RvRel L a a 0 1 :=
  ⟨[], L.drop a, rfl, rfl, rfl, rfl, by simp, by simp, by simp⟩

theorem rv_bounds {L : List UInt8} {a j n sc : Nat} (h : RvRel L a j n sc) (ha : a ≤ L.length) :
    a ≤ j ∧ j ≤ a + 5 ∧ j ≤ L.length ∧ 1 ≤ sc ∧ n < sc ∧ (j < a + 5 → sc ≤ 268435456) ∧ (j = a + 5 → sc = 34359738368) := by
  obtain ⟨pre, rest, h1, h2, h3, h4, h5, _, _⟩ := h
  have hl := congrArg List.length h1
  rw [List.length_drop, List.length_append] at hl
  have hv := valB_lt pre
  rw [← h3, ← h4] at hv
  refine ⟨by omega, by omega, by omega, by omega, hv, fun hj => ?_, fun hj => ?_⟩
  · rw [h4]
    have : pre.length ≤ 4 := by omega
    calc 128 ^ pre.length ≤ 128 ^ 4 := Nat.pow_le_pow_right (by decide) this
      _ = 268435456 := by decide
  · rw [h4, show pre.length = 5 by omega]

theorem rest_at {L pre rest : List UInt8} {a j : Nat} (h1 : L.drop a = pre ++ rest) (h2 : a + pre.length = j) (hj : j < L.length) : rest = L[j] :: rest.tail := by
  have e : rest = L.drop j := by
    have := congrArg (List.drop pre.length) h1
    rw [List.drop_drop, List.drop_left] at this
    rw [← this, h2]
  rw [e, List.drop_eq_getElem_cons hj]
  simp

theorem rv_step {L : List UInt8} {a j n sc : Nat} (h : RvRel L a j n sc) (hj : j < L.length) (hk : j < a + 5) (hb : 128 ≤ L[j].toNat) :
    RvRel L a (j + 1) (n + L[j].toNat % 128 * sc) (sc * 128) := by
  obtain ⟨pre, rest, h1, h2, h3, h4, h5, h6, h7⟩ := h
  have hr := rest_at h1 h2 hj
  refine ⟨pre ++ [L[j]], rest.tail, ?_, ?_, ?_, ?_, ?_, ?_, ?_⟩
  · rw [h1, List.append_assoc, List.singleton_append, ← hr]
  · rw [List.length_append, List.length_singleton]; omega
  · rw [valB_snoc, h3, h4]
  · rw [h4, List.length_append, List.length_singleton, Nat.pow_succ]
  · rw [List.length_append, List.length_singleton]; omega
  · intro b hm
    rcases List.mem_append.1 hm with h | h
    · exact h6 b h
    · rw [List.mem_singleton.1 h]; exact hb
  · rw [h7, hr]
    rw [show 5 - pre.length = (5 - (pre ++ [L[j]]).length) + 1 by rw [List.length_append, List.length_singleton]; omega]
    rw [headB, if_neg (by omega)]
    simp [Option.map_map, Function.comp_def]

theorem rv_none {L : List UInt8} {a j n sc : Nat} (h : RvRel L a j n sc) (hj : L.length ≤ j ∨ a + 5 ≤ j) : readB (L.drop a) = none := by
  obtain ⟨pre, rest, h1, h2, _, _, h5, _, h7⟩ := h
  have hn : headB (5 - pre.length) rest = none := by
    rcases hj with hj | hj
    · have hl := congrArg List.length h1
      rw [List.length_drop, List.length_append] at hl
      have : rest = [] := List.length_eq_zero_iff.1 (by omega)
      subst this
      cases 5 - pre.length <;> rfl
    · rw [show 5 - pre.length = 0 by omega]; rfl
  rw [readB, h7, hn]
  rfl

/-- Bytes of which all but the last are above 127, and the last not needless, are the bytes of the number that they tell. -/
theorem varB_valB : ∀ (pre : List UInt8) (b : UInt8), (∀ x ∈ pre, 128 ≤ x.toNat) → b.toNat < 128 → (pre = [] ∨ b.toNat ≠ 0) →
    varB (valB (pre ++ [b])) = pre ++ [b] ∧ (pre ≠ [] → 0 < valB (pre ++ [b]))
  | [], b, _, hb, _ => by
    refine ⟨?_, fun h => absurd rfl h⟩
    rw [List.nil_append, valB, valB, varB_last _ (by omega), show b.toNat % 128 + 128 * 0 = b.toNat by omega]
    simp
  | x :: pre, b, hx, hb, h => by
    have hx0 := hx x (by simp)
    have hx1 := x.toNat_lt
    have hb0 : b.toNat ≠ 0 := by
      rcases h with h | h
      · exact absurd h (by simp)
      · exact h
    have ih := varB_valB pre b (fun y hy => hx y (by simp [hy])) hb (.inr hb0)
    have hpos : 0 < valB (pre ++ [b]) := by
      cases pre with
      | nil => rw [List.nil_append, valB, valB]; omega
      | cons y r => exact ih.2 (by simp)
    rw [List.cons_append, valB]
    refine ⟨?_, fun _ => by omega⟩
    rw [varB_more _ (by omega), show (x.toNat % 128 + 128 * valB (pre ++ [b])) / 128 = valB (pre ++ [b]) by omega, ih.1,
      show (x.toNat % 128 + 128 * valB (pre ++ [b])) % 128 + 128 = x.toNat by omega]
    simp

theorem varB_end (n : Nat) : ∃ pre : List UInt8, ∃ b : UInt8, varB n = pre ++ [b] ∧ (pre = [] ∨ b.toNat ≠ 0) := by
  induction n using Nat.strongRecOn with
  | ind n ih =>
    by_cases h : 127 < n
    · obtain ⟨pre, b, hb, hp⟩ := ih (n / 128) (by omega)
      refine ⟨UInt8.ofNat (n % 128 + 128) :: pre, b, by rw [varB_more n h, hb]; rfl, .inr ?_⟩
      rcases hp with rfl | hp
      · by_cases h2 : 127 < n / 128
        · rw [varB_more _ h2] at hb
          have := congrArg List.length hb
          have h3 := varB_pos (n / 128 / 128)
          simp at this
          simp [this] at h3
        · rw [varB_last _ (by omega)] at hb
          have hb' : b = UInt8.ofNat (n / 128) := by simpa using hb.symm
          rw [hb', toNat_ofNat _ (by omega)]
          omega
      · exact hp
    · exact ⟨[], UInt8.ofNat n, by rw [varB_last n (by omega)]; rfl, .inl rfl⟩

theorem rv_end {L : List UInt8} {a j n sc : Nat} (h : RvRel L a j n sc) (hj : j < L.length) (hk : j < a + 5) (hb : L[j].toNat < 128) :
    (varB (n + L[j].toNat % 128 * sc) = (L.drop a).take (j + 1 - a) ↔ ¬ (L[j].toNat = 0 ∧ a < j)) ∧
    readB (L.drop a) = if 1000000000 < n + L[j].toNat % 128 * sc ∨ (L[j].toNat = 0 ∧ a < j) then none else some (n + L[j].toNat % 128 * sc, j + 1 - a) := by
  obtain ⟨pre, rest, h1, h2, h3, h4, h5, h6, h7⟩ := h
  have hr := rest_at h1 h2 hj
  have hv : n + L[j].toNat % 128 * sc = valB (pre ++ [L[j]]) := by rw [valB_snoc, h3, h4]
  have hh : headB 5 (L.drop a) = some (pre ++ [L[j]]) := by
    rw [h7, hr, show 5 - pre.length = (4 - pre.length) + 1 by omega, headB, if_pos hb]
    rfl
  have ht : (L.drop a).take (j + 1 - a) = pre ++ [L[j]] := by
    rw [h1, hr, show j + 1 - a = pre.length + 1 by omega]
    rw [List.take_length_add_append]
    simp
  have key : varB (valB (pre ++ [L[j]])) = pre ++ [L[j]] ↔ ¬ (L[j].toNat = 0 ∧ a < j) := by
    constructor
    · intro e ⟨h0, haj⟩
      obtain ⟨p, b, hp, hq⟩ := varB_end (valB (pre ++ [L[j]]))
      rw [e] at hp
      obtain ⟨e1, e2⟩ := List.append_inj' hp rfl
      have e2' : L[j] = b := by simpa using e2
      rcases hq with hq | hq
      · rw [← e1] at hq
        subst hq
        simp at h2
        omega
      · rw [← e2'] at hq; exact hq h0
    · intro hn
      refine (varB_valB pre L[j] h6 hb ?_).1
      by_cases h0 : L[j].toNat = 0
      · left
        have : ¬ a < j := fun h => hn ⟨h0, h⟩
        exact List.length_eq_zero_iff.1 (by omega)
      · exact .inr h0
  refine ⟨by rw [hv, ht]; exact key, ?_⟩
  rw [readB, hh, hv]
  simp only [List.length_append, List.length_singleton]
  rw [show pre.length + 1 = j + 1 - a by omega]
  by_cases hc : L[j].toNat = 0 ∧ a < j
  · have : varB (valB (pre ++ [L[j]])) ≠ pre ++ [L[j]] := fun e => key.1 e hc
    simp [hc, this]
  · have := key.2 hc
    simp [hc, this]

/-- What reading a number answers: the number, the place behind it, and whether there is one. -/
def rvOut (L : List UInt8) (a : Int) : Int × Int × Bool :=
  if 0 ≤ a ∧ a ≤ L.length then
    match readB (L.drop a.toNat) with
    | none => (0, 0, false)
    | some (n, k) => ((n : Int), a + k, true)
  else (0, 0, false)

theorem rvOut_out (L : List UInt8) (a : Int) (h : a < 0 ∨ L.length < a) : rvOut L a = (0, 0, false) := by
  rw [rvOut, if_neg (by omega)]

theorem rvOut_none {L : List UInt8} {a : Nat} (h : readB (L.drop a) = none) : rvOut L a = (0, 0, false) := by
  rw [rvOut, Int.toNat_natCast, h]
  split <;> rfl

theorem rvOut_some {L : List UInt8} {a n k : Nat} (ha : a ≤ L.length) (h : readB (L.drop a) = some (n, k)) : rvOut L a = ((n : Int), (a : Int) + k, true) := by
  rw [rvOut, Int.toNat_natCast, h, if_pos (by omega)]

end Go.Proofs.YtokidlklkgghkaaGreatDoor

namespace Go.Proofs.YtokidlklkgghkaaGreatDoor
open Go.RowKit

theorem get_list (s : ByteArray) (j : Nat) (h : j < s.size) : s.data.toList[j]'(by simpa using h) = s[j] := rfl

theorem rv_end_out {s : ByteArray} {a j n sc : Nat} (h : RvRel s.data.toList a j n sc) (hj : j < s.size) (hk : j < a + 5) (hb : s[j].toNat < 128) (ha : a ≤ j) :
    rvOut s.data.toList a = if (1000000000 : Int) < (n : Int) + (s[j].toNat : Int) % 128 * sc ∨ (s[j].toNat = 0 ∧ a < j) then (0, 0, false) else ((n : Int) + (s[j].toNat : Int) % 128 * sc, (j : Int) + 1, true) := by
  have hl : s.data.toList.length = s.size := by simp
  have e := (rv_end h (by rw [hl]; exact hj) hk (by rw [get_list s j hj]; exact hb)).2
  rw [get_list s j hj] at e
  have ec : ((n + s[j].toNat % 128 * sc : Nat) : Int) = (n : Int) + (s[j].toNat : Int) % 128 * sc := by simp
  by_cases hc : 1000000000 < n + s[j].toNat % 128 * sc ∨ (s[j].toNat = 0 ∧ a < j)
  · rw [if_pos hc] at e
    rw [rvOut_none e, if_pos (by rw [← ec]; omega)]
  · rw [if_neg hc] at e
    rw [rvOut_some (by omega) e, if_neg (by rw [← ec]; omega), ec]
    simp only [Prod.mk.injEq, and_true, true_and]
    omega

theorem rv_zero {x : Nat} {a j n sc : Nat} (h : x = 0) :
    (if (1000000000 : Int) < (n : Int) + (x : Int) % 128 * sc ∨ (x = 0 ∧ a < j) then ((0 : Int), (0 : Int), false) else ((n : Int) + (x : Int) % 128 * sc, (j : Int) + 1, true)) =
      if (1000000000 : Int) < (n : Int) ∨ a < j then (0, 0, false) else ((n : Int), (j : Int) + 1, true) := by
  subst h; simp

/-- The rounds' relation, of the slots. -/
def RvSlots (s : ByteArray) (a : Nat) (nv sv iv : Value) : Prop :=
  ∃ j n sc : Nat, nv = .int .i64 n ∧ sv = .int .i64 sc ∧ iv = .int .i64 j ∧ RvRel s.data.toList a j n sc

theorem rv_next {s : ByteArray} {a j n sc : Nat} (h : RvRel s.data.toList a j n sc) (hj : j < s.size) (hk : j < a + 5) (hb : 128 ≤ s[j].toNat) :
    RvSlots s a (.int .i64 ((n : Int) + (s[j].toNat : Int) % 128 * sc)) (.int .i64 ((sc : Int) * 128)) (.int .i64 ((j : Int) + 1)) := by
  have hl : s.data.toList.length = s.size := by simp
  have e := rv_step h (by rw [hl]; exact hj) hk (by rw [get_list s j hj]; exact hb)
  rw [get_list s j hj] at e
  exact ⟨j + 1, _, _, by simp, by simp, by simp, e⟩

def rvVal (s : ByteArray) (a : Int) : Value :=
  .tuple #[.int .i64 (rvOut s.data.toList a).1, .int .i64 (rvOut s.data.toList a).2.1, .bool (rvOut s.data.toList a).2.2]

theorem rvVal_of {s : ByteArray} {a x y : Int} {b : Bool} (h : rvOut s.data.toList a = (x, y, b)) : rvVal s a = .tuple #[.int .i64 x, .int .i64 y, .bool b] := by
  rw [rvVal, h]

theorem byte_mul (b : UInt8) (sc : Nat) (h : sc ≤ 268435456) : (0 : Int) ≤ (b.toNat : Int) % 128 * sc ∧ (b.toNat : Int) % 128 * sc ≤ 34091302912 := by
  constructor
  · exact Int.mul_nonneg (by omega) (by omega)
  · have : (b.toNat : Int) % 128 * sc ≤ 127 * 268435456 := Int.mul_le_mul (by omega) (by omega) (by omega) (by omega)
    omega

set_option maxHeartbeats 400000 in
set_option maxRecDepth 100000 in
theorem implRead_in (s : ByteArray) (a : Nat) (w : World) (hs : s.size ≤ maxLen) (ha : a ≤ s.size) :
    Calls Tryz.prog 61 #[.string s, .int .i64 a] w fun e w' => e = .returned (rvVal s a) ∧ w' = w := by
  unfold maxLen at hs
  have HL : Hid (s.data.toList.length = s.size) := by simp [Hid]
  go_enter Tryz.func61, Tryz.ntmps61
  go_wp2
  go_loop [7, 8, 9] (fun nv sv iv => RvSlots s a nv sv iv) (fun _ _ iv => s.size - (intOf iv).toNat)
  case atStart => exact ⟨a, 0, 1, rfl, rfl, rfl, rv_start _ _⟩
  case round =>
    obtain ⟨j, n, sc, rfl, rfl, rfl, hr⟩ := hrel
    obtain ⟨b1, b2, b3, b4, b5, b6, b7⟩ := rv_bounds hr (by rw [HL.out]; exact ha)
    rw [HL.out] at b3
    have HR : Hid (RvRel s.data.toList a j n sc) := hr
    clear hr
    by_cases hlt : j < s.size
    · by_cases hk : j < a + 5
      · have hsc := b6 hk
        clear b6 b7
        have hbyte : (s[j].toNat : Int) < 256 := by have := s[j].toNat_lt; omega
        obtain ⟨hm1, hm2⟩ := byte_mul s[j] sc hsc
        by_cases hb : 128 ≤ s[j].toNat
        · have R := rv_next HR.out hlt hk hb
          go_wp2
          go_round
          case rel => exact R
          case measure => simp [intOf]; omega
        · have HE : Hid (_ = _) := rv_end_out HR.out hlt hk (by omega) b1
          clear HR
          by_cases h0 : s[j].toNat = 0
          · have HE0 : Hid (_ = _) := (HE.out).trans (rv_zero h0)
            clear HE hm1 hm2
            go_wp2
            all_goals
              go_ret3
              refine ⟨congrArg _ (rvVal_of ?_).symm, rfl⟩
              rw [HE0.out]
              first | rw [if_pos (by omega)] | rw [if_neg (by omega)]
          · go_wp2
            all_goals
              go_ret3
              refine ⟨congrArg _ (rvVal_of ?_).symm, rfl⟩
              rw [HE.out]
              first | rw [if_pos (by omega)] | rw [if_neg (by omega)]
      · have hsc : 34359738368 ≤ sc := by rw [b7 (by omega)]; exact Nat.le_refl _
        clear b6 b7
        have HE : Hid (_ = _) := rvOut_none (rv_none HR.out (.inr (by omega)))
        clear HR
        go_wp2
        go_ret3
        exact ⟨congrArg _ (rvVal_of HE.out).symm, rfl⟩
    · have HE : Hid (_ = _) := rvOut_none (rv_none HR.out (.inl (by rw [HL.out]; omega)))
      clear HR b6 b7
      go_wp2
      go_ret3
      exact ⟨congrArg _ (rvVal_of HE.out).symm, rfl⟩

set_option maxRecDepth 100000 in
theorem implRead_out (s : ByteArray) (a : Int) (w : World) (h : a < 0 ∨ s.size < a) :
    Calls Tryz.prog 61 #[.string s, .int .i64 a] w fun e w' => e = .returned (rvVal s a) ∧ w' = w := by
  have HE : Hid (_ = _) := rvOut_out s.data.toList a (by simpa using h)
  by_cases h0 : a < 0
  · go_enter Tryz.func61, Tryz.ntmps61
    go_wp2
    go_ret3
    exact ⟨congrArg _ (rvVal_of HE.out).symm, rfl⟩
  · have h1 : (s.size : Int) < a := by omega
    go_enter Tryz.func61, Tryz.ntmps61
    go_wp2
    go_ret3
    exact ⟨congrArg _ (rvVal_of HE.out).symm, rfl⟩

/-- At every place. -/
theorem implRead_any (s : ByteArray) (a : Int) (w : World) (hs : s.size ≤ 1048576) :
    Calls Tryz.prog 61 #[.string s, .int .i64 a] w fun e w' => e = .returned (rvVal s a) ∧ w' = w := by
  by_cases h : 0 ≤ a ∧ a ≤ s.size
  · obtain ⟨n, rfl⟩ := Int.eq_ofNat_of_zero_le h.1
    exact implRead_in s n w (by unfold maxLen; omega) (by omega)
  · exact implRead_out s a w (by omega)

end Go.Proofs.YtokidlklkgghkaaGreatDoor

namespace Go.Proofs.YtokidlklkgghkaaGreatDoor
open Go.RowKit

/-- The test that the specification makes, as the walk leaves it. -/
theorem rv_test {s : ByteArray} {a j n sc : Nat} (h : RvRel s.data.toList a j n sc) (hj : j < s.size) (hk : j < a + 5) (hb : s[j].toNat < 128) :
    ((str (varB ((n : Int) + (s[j].toNat : Int) % 128 * sc).toNat)).toList == (s.extract a (j + 1)).toList) = !decide (s[j].toNat = 0 ∧ a < j) := by
  have hl : s.data.toList.length = s.size := by simp
  have e := (rv_end h (by rw [hl]; exact hj) hk (by rw [get_list s j hj]; exact hb)).1
  rw [get_list s j hj] at e
  have ec : ((n : Int) + (s[j].toNat : Int) % 128 * sc).toNat = n + s[j].toNat % 128 * sc := by
    rw [show (n : Int) + (s[j].toNat : Int) % 128 * sc = ((n + s[j].toNat % 128 * sc : Nat) : Int) by simp, Int.toNat_natCast]
  have e2 : (s.extract a (j + 1)).toList = (s.data.toList.drop a).take (j + 1 - a) := by
    rw [ByteArray.toList_eq]
    simp [ByteArray.data_extract, List.extract_eq_take_drop]
  rw [ec, e2, ByteArray.toList_eq, str_list, Bool.eq_iff_iff]
  simp only [beq_iff_eq, Bool.not_eq_true', decide_eq_false_iff_not]
  exact e

set_option maxHeartbeats 800000 in
set_option maxRecDepth 100000 in
theorem specRead_in (s : ByteArray) (a : Nat) (w : World) (hs : s.size ≤ 1048576) (ha : a ≤ s.size) :
    Calls Tryz.prog 25 #[.string s, .int .i64 a] w fun e w' => e = .returned (rvVal s a) ∧ Below w.heap.size w w' := by
  have HL : Hid (s.data.toList.length = s.size) := by simp [Hid]
  go_enter Tryz.func25, Tryz.ntmps25
  go_wp2_with (go_at_call 54; refine (l01In_any _ _ _ _).mono ?_; rintro e w' ⟨rfl, rfl⟩; rw [show decide ((0 : Int) ≤ (a : Int) ∧ (a : Int) ≤ s.size) = true from by simp; omega])
  go_loop [7, 8, 9] (fun nv sv iv => RvSlots s a nv sv iv) (fun _ _ iv => s.size - (intOf iv).toNat)
  case atStart => exact ⟨a, 0, 1, rfl, rfl, rfl, rv_start _ _⟩
  case round =>
    obtain ⟨j, n, sc, rfl, rfl, rfl, hr⟩ := hrel
    obtain ⟨b1, b2, b3, b4, b5, b6, b7⟩ := rv_bounds hr (by rw [HL.out]; exact ha)
    rw [HL.out] at b3
    have HR : Hid (RvRel s.data.toList a j n sc) := hr
    clear hr
    by_cases hlt : j < s.size
    · by_cases hk : j < a + 5
      · have hsc := b6 hk
        clear b6 b7
        have hbyte : (s[j].toNat : Int) < 256 := by have := s[j].toNat_lt; omega
        obtain ⟨hm1, hm2⟩ := byte_mul s[j] sc hsc
        by_cases hb : 128 ≤ s[j].toNat
        · have R := rv_next HR.out hlt hk hb
          go_wp2
          go_round
          case rel => exact R
          case measure => simp [intOf]; omega
        · have HE : Hid (_ = _) := rv_end_out HR.out hlt hk (by omega) b1
          have HT : Hid (_ = _) := rv_test HR.out hlt hk (by omega)
          clear HR
          by_cases hN : (1000000000 : Int) < (n : Int) + (s[j].toNat : Int) % 128 * sc
          · go_wp2
            go_quiet (fail)
            go_wp2
            go_ret3
            exact ⟨congrArg _ (rvVal_of (by rw [HE.out, if_pos (.inl hN)])).symm, bel_drewN (Below.refl _ _) _⟩
          · have hd : decide ((1000000000 : Int) < (n : Int) + (s[j].toNat : Int) % 128 * sc) = false := by simpa using hN
            have g1 : (0 : Int) ≤ (a : Int) := by omega
            have g2 : (a : Int) ≤ (j : Int) + 1 := by omega
            have g3 : (j : Int) + 1 ≤ (s.size : Int) := by omega
            have hwr : IntKind.i64.wrap ((j : Int) + 1) = (j : Int) + 1 := wrap_small _ (by omega) (by omega)
            go_wp2
            go_region_held3 (fun _ => True) (trivial) ((go_at_call 30; refine (l01Var_int _ _ (by omega) (by omega)).mono ?_; rintro e w' ⟨rfl, hb⟩))
            all_goals go_wp2
            all_goals go_ret3
            · have ht : (!(str (varB ((n : Int) + (s[j].toNat : Int) % 128 * sc).toNat)).toList == (s.extract a (j + 1)).toList) = true := by assumption
              rw [HT.out] at ht
              exact ⟨congrArg _ (rvVal_of (by rw [HE.out, if_pos (.inr (by simpa using ht))])).symm, bel_of_drew hb⟩
            · have ht : (!(str (varB ((n : Int) + (s[j].toNat : Int) % 128 * sc).toNat)).toList == (s.extract a (j + 1)).toList) = false := by assumption
              rw [HT.out] at ht
              exact ⟨congrArg _ (rvVal_of (by rw [HE.out, if_neg (by intro h; rcases h with h | h; omega; simp [h] at ht)])).symm, bel_of_drew hb⟩
      · clear b6 b7
        have HE : Hid (_ = _) := rvOut_none (rv_none HR.out (.inr (by omega)))
        clear HR
        go_wp2
        go_ret3
        exact ⟨congrArg _ (rvVal_of HE.out).symm, Below.refl _ _⟩
    · have HE : Hid (_ = _) := rvOut_none (rv_none HR.out (.inl (by rw [HL.out]; omega)))
      clear HR b6 b7
      go_wp2
      go_ret3
      exact ⟨congrArg _ (rvVal_of HE.out).symm, Below.refl _ _⟩

set_option maxRecDepth 100000 in
theorem specRead_out (s : ByteArray) (a : Int) (w : World) (h : a < 0 ∨ s.size < a) :
    Calls Tryz.prog 25 #[.string s, .int .i64 a] w fun e w' => e = .returned (rvVal s a) ∧ w' = w := by
  have HE : Hid (_ = _) := rvOut_out s.data.toList a (by simpa using h)
  go_enter Tryz.func25, Tryz.ntmps25
  go_wp2_with (go_at_call 54; refine (l01In_any _ _ _ _).mono ?_; rintro e w' ⟨rfl, rfl⟩; rw [show decide ((0 : Int) ≤ a ∧ a ≤ s.size) = false from by simp; omega])
  go_ret3
  exact ⟨congrArg _ (rvVal_of HE.out).symm, rfl⟩

theorem specRead_any (s : ByteArray) (a : Int) (w : World) (hs : s.size ≤ 1048576) :
    Calls Tryz.prog 25 #[.string s, .int .i64 a] w fun e w' => e = .returned (rvVal s a) ∧ Below w.heap.size w w' := by
  by_cases h : 0 ≤ a ∧ a ≤ s.size
  · obtain ⟨n, rfl⟩ := Int.eq_ofNat_of_zero_le h.1
    exact specRead_in s n w hs (by omega)
  · refine (specRead_out s a w (by omega)).mono ?_
    rintro e w' ⟨rfl, rfl⟩
    exact ⟨rfl, Below.refl _ _⟩

end Go.Proofs.YtokidlklkgghkaaGreatDoor
