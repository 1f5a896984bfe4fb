/- The program's RuleName. -/
/- Names in order: the plain mathematics of lists of names with numbers. -/
/- Names that ascend, and the program's EnvSet as plain mathematics; names kept in a map. -/
import Derived.Test.YtofpoiccghpliaaGreatDoorGRule
import Derived.Test.YtofpoiccghpliaaGreatDoorSetRead
import Derived.Test.YtofpoiccghpliaaGreatDoorXFree
import Derived.Sort.KeysCollected
import Derived.Sort.Walk0
import Derived.Maps.OwnSet
namespace Go.Proofs.YtofpoiccghpliaaGreatDoor
open Go.RowKit

def greatB (b : Nat) : Bool := decide (65 ≤ b) && decide (b ≤ 90)
theorem great_any (b : Nat) (w : World) :
    Calls Tryz.prog 85 #[.int .u8 b] w fun e w' => e = .returned (.bool (greatB b)) ∧ w' = w := by
  by_cases h1 : 65 ≤ b
  · by_cases h2 : b ≤ 90
    · have HV : Hid (greatB b = true) := by simp [Hid, greatB, h1, h2]
      have e90 : decide ((b : Int) ≤ 90) = true := by rw [decide_eq_true]; omega
      go_enter Tryz.func85, Tryz.ntmps85
      go_wp2
      go_ret
      rw [HV.out]
      exact ⟨rfl, rfl⟩
    · have HV : Hid (greatB b = false) := by simp [Hid, greatB, h2]
      have e90 : decide ((b : Int) ≤ 90) = false := by rw [decide_eq_false]; omega
      go_enter Tryz.func85, Tryz.ntmps85
      go_wp2
      go_ret
      rw [HV.out]
      exact ⟨rfl, rfl⟩
  · have HV : Hid (greatB b = false) := by simp [Hid, greatB, h1]
    have h2 : b < 65 := by omega
    go_enter Tryz.func85, Tryz.ntmps85
    go_wp2
    go_ret
    rw [HV.out]
    exact ⟨rfl, rfl⟩

theorem rnC_of (i b : Nat) : rnC i b = (decide (kindP b = 2) || greatB b || (decide (0 < i) && decide (kindP b = 1))) := by
  unfold rnC kindP greatB
  by_cases h1 : 48 ≤ b ∧ b ≤ 57
  · rw [if_pos h1, Bool.eq_iff_iff]; simp; omega
  · rw [if_neg h1]
    by_cases h2 : 97 ≤ b ∧ b ≤ 122
    · rw [if_pos h2, Bool.eq_iff_iff]; simp; omega
    · rw [if_neg h2, Bool.eq_iff_iff]; simp; omega
theorem kindP_of (b : Nat) : kindP b = 0 ∨ kindP b = 1 ∨ kindP b = 2 := by
  unfold kindP; split
  · exact .inr (.inl rfl)
  · split
    · exact .inr (.inr rfl)
    · exact .inl rfl

set_option maxHeartbeats 1600000 in
set_option maxRecDepth 100000 in
theorem implRuleName_any (s : ByteArray) (w : World) (hs : s.size ≤ 1048576) :
    Calls Tryz.prog 70 #[.string s] w fun e w' => e = .returned (.bool (ruleNameB s)) ∧ w' = w := by
  have HB : Hid (ruleNameB s = (rnTo s s.size && decide ((1 : Int) ≤ s.size ∧ (s.size : Int) ≤ 6))) := rfl
  by_cases h1 : s.size < 1
  · have HV : Hid (ruleNameB s = false) := by rw [Hid, HB.out]; simp; omega
    go_enter Tryz.func70, Tryz.ntmps70
    go_wp2
    go_ret
    rw [HV.out]
    exact ⟨rfl, rfl⟩
  by_cases h6 : 6 < s.size
  · have HV : Hid (ruleNameB s = false) := by rw [Hid, HB.out]; simp; omega
    go_enter Tryz.func70, Tryz.ntmps70
    go_wp2
    go_ret
    rw [HV.out]
    exact ⟨rfl, rfl⟩
  have h0 : 0 < s.size := by omega
  have HL : Hid (ruleNameB s = rnTo s s.size) := by rw [Hid, HB.out]; simp; omega
  have HNo : Hid (∀ k (h : k < s.size), rnC k s[k].toNat = false → ruleNameB s = false) := fun k hk h => by rw [HL.out, rnTo_no s k hk h]
  have hu0 := s[0].toNat_lt
  by_cases hf : kindP s[0].toNat = 1
  · have HV : Hid (ruleNameB s = false) := HNo.out 0 h0 (by
      rw [rnC_of, hf]
      have : greatB s[0].toNat = false := by
        unfold kindP at hf
        split at hf
        · unfold greatB; simp; omega
        · split at hf <;> cases hf
      rw [this]; rfl)
    have HK : Hid (∀ W, Calls Tryz.prog 84 #[.int .u8 s[0].toNat] W fun e w' => e = .returned (.int .i64 1) ∧ w' = W) := fun W => by
      have := kind_any s[0].toNat (by omega) W
      rwa [hf] at this
    clear hf
    go_enter Tryz.func70, Tryz.ntmps70
    go_wp2_with (go_at_call 84; refine (HK.out _).mono ?_; rintro e wq ⟨rfl, hw⟩; rw [hw]; clear hw)
    go_ret
    rw [HV.out]
    exact ⟨rfl, rfl⟩
  obtain ⟨q0, hq0⟩ : ∃ q : Int, q = kindP s[0].toNat := ⟨_, rfl⟩
  have HK : Hid (∀ W, Calls Tryz.prog 84 #[.int .u8 s[0].toNat] W fun e w' => e = .returned (.int .i64 q0) ∧ w' = W) := fun W => by
    have := kind_any s[0].toNat (by omega) W
    rwa [← hq0] at this
  have hq1 : ¬ q0 = 1 := by rw [hq0]; exact hf
  have HQ : Hid (q0 = kindP s[0].toNat) := hq0
  clear hf hq0
  have d1 : decide ((s.size : Int) < 1) = false := by rw [decide_eq_false]; omega
  have d2 : decide ((6 : Int) < (s.size : Int)) = false := by rw [decide_eq_false]; omega
  have d3 : (q0 == 1) = false := by simpa using hq1
  go_enter Tryz.func70, Tryz.ntmps70
  go_wp2_with (go_at_call 84; refine (HK.out _).mono ?_; rintro e wq ⟨rfl, hw⟩; rw [hw]; clear hw)
  go_loopw [20] (fun iv wr => ∃ k : Nat, iv = .int .i64 k ∧ k ≤ s.size ∧ rnTo s k = true ∧ wr = w) (fun iv _ => s.size - (intOf iv).toNat)
  case atStart => exact ⟨0, rfl, Nat.zero_le _, rfl, rfl⟩
  case round =>
    obtain ⟨k, rfl, hk, hto, hwr⟩ := hrel
    rw [hwr]
    clear hwr
    have HTo : Hid (rnTo s k = true) := hto
    clear hto
    by_cases hlt : k < s.size
    · have hu := s[k].toNat_lt
      have HNx : Hid (_ = _) := rnTo_next s k hlt
      have i4 : (k : Int) < (s.size : Int) := by omega
      have HKk : Hid (∀ W, _) := fun W => kind_any s[k].toNat (by omega) W
      by_cases hz : kindP s[k].toNat = 0
      · rw [hz] at HKk
        have HG : Hid (∀ W, _) := fun W => great_any s[k].toNat W
        cases hg : greatB s[k].toNat with
        | true =>
          rw [hg] at HG
          have HY : Hid (rnC k s[k].toNat = true) := by rw [Hid, rnC_of, hg]; simp
          clear hz hg
          go_wp2_with (first
            | (go_at_call 84; refine (HKk.out _).mono ?_; rintro e wq ⟨rfl, hw⟩; rw [hw]; clear hw)
            | (go_at_call 85; refine (HG.out _).mono ?_; rintro e wq ⟨rfl, hw⟩; rw [hw]; clear hw))
          go_roundw
          case rel => exact ⟨k + 1, by go_num, by omega, by rw [HNx.out, HTo.out, HY.out]; rfl, (by first | rfl | trivial)⟩
          case measure => simp [intOf]; omega
        | false =>
          rw [hg] at HG
          have HV : Hid (ruleNameB s = false) := HNo.out k hlt (by rw [rnC_of, hg, hz]; simp)
          clear hz hg
          go_wp2_with (first
            | (go_at_call 84; refine (HKk.out _).mono ?_; rintro e wq ⟨rfl, hw⟩; rw [hw]; clear hw)
            | (go_at_call 85; refine (HG.out _).mono ?_; rintro e wq ⟨rfl, hw⟩; rw [hw]; clear hw))
          go_ret
          rw [HV.out]
          exact ⟨rfl, rfl⟩
      · have HY : Hid (rnC k s[k].toNat = true) := by
          rw [Hid, rnC_of]
          rcases kindP_of s[k].toNat with h | h | h
          · exact absurd h hz
          · by_cases hk0 : k = 0
            · subst hk0
              exact absurd (HQ.out.trans h) hq1
            · have : 0 < k := by omega
              simp [h, this]
          · simp [h]
        obtain ⟨q, hq⟩ : ∃ q : Int, q = kindP s[k].toNat := ⟨_, rfl⟩
        rw [← hq] at HKk hz
        clear hq
        go_wp2_with (go_at_call 84; refine (HKk.out _).mono ?_; rintro e wq ⟨rfl, hw⟩; rw [hw]; clear hw)
        go_roundw
        case rel => exact ⟨k + 1, by go_num, by omega, by rw [HNx.out, HTo.out, HY.out]; rfl, (by first | rfl | trivial)⟩
        case measure => simp [intOf]; omega
    · obtain rfl : k = s.size := by omega
      have HV : Hid (ruleNameB s = true) := by rw [Hid, HL.out, HTo.out]
      go_wp2
      go_ret
      rw [HV.out]
      exact ⟨rfl, rfl⟩

end Go.Proofs.YtofpoiccghpliaaGreatDoor

namespace Go.Proofs.YtofpoiccghpliaaGreatDoor
open Go.RowKit

theorem bl_irrefl : ∀ (x : List UInt8), Op.bytesLess x x = false
  | [] => rfl
  | a :: x => by simp [Op.bytesLess, bl_irrefl x, UInt8.lt_irrefl]
theorem bl_trans : ∀ (x y z : List UInt8), Op.bytesLess x y = true → Op.bytesLess y z = true → Op.bytesLess x z = true
  | _, [], _, h, _ => by cases ‹List UInt8› <;> simp [Op.bytesLess] at h
  | _, _ :: _, [], _, h => by simp [Op.bytesLess] at h
  | [], _ :: _, _ :: _, _, _ => rfl
  | a :: x, b :: y, c :: z, h, k => by
    simp only [Op.bytesLess, Bool.or_eq_true, decide_eq_true_eq, Bool.and_eq_true, beq_iff_eq] at h k ⊢
    rcases h with h | ⟨rfl, h⟩
    · rcases k with k | ⟨rfl, k⟩
      · exact .inl (UInt8.lt_trans h k)
      · exact .inl h
    · rcases k with k | ⟨rfl, k⟩
      · exact .inl k
      · exact .inr ⟨rfl, bl_trans x y z h k⟩
theorem bl_tri : ∀ (x y : List UInt8), Op.bytesLess x y = true ∨ x = y ∨ Op.bytesLess y x = true
  | [], [] => .inr (.inl rfl)
  | [], _ :: _ => .inl rfl
  | _ :: _, [] => .inr (.inr rfl)
  | a :: x, b :: y => by
    simp only [Op.bytesLess, Bool.or_eq_true, decide_eq_true_eq, Bool.and_eq_true, beq_iff_eq, List.cons.injEq]
    rcases Nat.lt_trichotomy a.toNat b.toNat with h | h | h
    · exact .inl (.inl h)
    · have e : a = b := UInt8.toNat_inj.1 h
      subst e
      rcases bl_tri x y with h | h | h
      · exact .inl (.inr ⟨rfl, h⟩)
      · exact .inr (.inl ⟨rfl, h⟩)
      · exact .inr (.inr (.inr ⟨rfl, h⟩))
    · exact .inr (.inr (.inl h))

theorem toList_inj {a b : ByteArray} (h : a.toList = b.toList) : a = b := by
  rw [ByteArray.toList_eq, ByteArray.toList_eq] at h
  exact ByteArray.ext (Array.toList_inj.1 h)
theorem lt_irrefl (a : ByteArray) : ltS a a = false := bl_irrefl _
theorem lt_trans' {a b c : ByteArray} (h : ltS a b = true) (k : ltS b c = true) : ltS a c = true := bl_trans _ _ _ h k
theorem lt_ne {a b : ByteArray} (h : ltS a b = true) : a ≠ b := by
  intro e; subst e; rw [lt_irrefl] at h; cases h
theorem lt_asymm' {a b : ByteArray} (h : ltS a b = true) : ltS b a = false := by
  cases hh : ltS b a with
  | false => rfl
  | true => have := lt_trans' h hh; rw [lt_irrefl] at this; cases this
theorem lt_tri (a b : ByteArray) : ltS a b = true ∨ a = b ∨ ltS b a = true := by
  rcases bl_tri a.toList b.toList with h | h | h
  · exact .inl h
  · exact .inr (.inl (toList_inj h))
  · exact .inr (.inr h)
theorem gt_iff (a b : ByteArray) : gtS a b = ltS b a := by
  unfold gtS
  rw [bytes_beq]
  rcases lt_tri a b with h | h | h
  · rw [show Op.bytesLess a.toList b.toList = true from h, lt_asymm' h]; rfl
  · subst h; rw [show Op.bytesLess a.toList a.toList = false from lt_irrefl a, lt_irrefl]; simp
  · rw [show Op.bytesLess a.toList b.toList = false from lt_asymm' h, h]
    simp only [Bool.false_or, Bool.not_eq_true', decide_eq_false_iff_not]
    exact fun e => lt_ne h e.symm

/-- Right behind a name, ascending: as a plain statement. -/
def After (p : Option ByteArray) (s : ByteArray) : Prop := match p with | none => True | some q => ltS q s = true
theorem stepOk_iff (p : Option ByteArray) (x : VarD) : stepOk p x = true ↔ nameB x.1 = true ∧ (-9999 ≤ x.2 ∧ x.2 ≤ 9999) ∧ After p x.1 := by
  unfold stepOk After
  cases p <;> simp [ltS, and_assoc]
theorem After.trans {p : Option ByteArray} {a b : ByteArray} (h : After p a) (k : ltS a b = true) : After p b := by
  cases p with
  | none => trivial
  | some q => exact lt_trans' h k

/-- All names of a right list come behind what it comes behind. -/
theorem chain_all : ∀ (xs : List VarD) (p : Option ByteArray), chainB p xs = true → ∀ x ∈ xs, nameB x.1 = true ∧ (-9999 ≤ x.2 ∧ x.2 ≤ 9999) ∧ After p x.1
  | [], _, _, _, hx => by cases hx
  | y :: ys, p, h, x, hx => by
    simp only [chainB, Bool.and_eq_true, stepOk_iff] at h
    rcases List.mem_cons.1 hx with rfl | hx
    · exact h.1
    · have := chain_all ys (some y.1) h.2 x hx
      exact ⟨this.1, this.2.1, h.1.2.2.trans this.2.2⟩

theorem filter_all {p : VarD → Bool} : ∀ {xs : List VarD}, (∀ x ∈ xs, p x = true) → xs.filter p = xs
  | [], _ => rfl
  | x :: xs, h => by rw [List.filter_cons, if_pos (h x (List.mem_cons_self ..)), filter_all (fun y hy => h y (List.mem_cons_of_mem _ hy))]
theorem filter_no {p : VarD → Bool} : ∀ {xs : List VarD}, (∀ x ∈ xs, p x = false) → xs.filter p = []
  | [], _ => rfl
  | x :: xs, h => by rw [List.filter_cons, if_neg (by rw [h x (List.mem_cons_self ..)]; simp), filter_no (fun y hy => h y (List.mem_cons_of_mem _ hy))]

theorem putB_nil (name : ByteArray) (num : Int) : putB [] name num = [(name, num)] := rfl
theorem putB_lt {x : VarD} {xs : List VarD} {name : ByteArray} {num : Int} (h : ltS x.1 name = true) : putB (x :: xs) name num = x :: putB xs name num := by
  have h2 : gtS x.1 name = false := by rw [gt_iff]; exact lt_asymm' h
  simp [putB, h, h2]
/-- Where the first is not less, none of a right list is. -/
theorem putB_ge {x : VarD} {xs : List VarD} {p : Option ByteArray} {name : ByteArray} {num : Int} (hc : chainB p (x :: xs) = true) (h : ltS x.1 name = false) :
    putB (x :: xs) name num = (name, num) :: (if x.1 = name then xs else x :: xs) := by
  simp only [chainB, Bool.and_eq_true] at hc
  have hall := chain_all xs (some x.1) hc.2
  have hle : x.1 = name ∨ ltS name x.1 = true := by
    rcases lt_tri x.1 name with k | k | k
    · rw [h] at k; cases k
    · exact .inl k
    · exact .inr k
  have hgt : ∀ y ∈ xs, ltS name y.1 = true := fun y hy => by
    have := (hall y hy).2.2
    rcases hle with rfl | k
    · exact this
    · exact lt_trans' k this
  have e1 : (x :: xs).filter (fun y => ltS y.1 name) = [] := filter_no (fun y hy => by
    rcases List.mem_cons.1 hy with rfl | hy
    · exact h
    · exact lt_asymm' (hgt y hy))
  have e2 : xs.filter (fun y => gtS y.1 name) = xs := filter_all (fun y hy => by rw [gt_iff]; exact hgt y hy)
  unfold putB
  rw [e1]
  rcases hle with k | k
  · rw [if_pos k, List.filter_cons, if_neg (by rw [gt_iff, k, lt_irrefl]; simp), e2]; rfl
  · rw [if_neg (fun e => lt_ne k e.symm), List.filter_cons, if_pos (by rw [gt_iff]; exact k), e2]; rfl

/-- A right list with a name put into it is right. -/
theorem chain_put : ∀ (xs : List VarD) (p : Option ByteArray) (name : ByteArray) (num : Int), chainB p xs = true → nameB name = true → -9999 ≤ num ∧ num ≤ 9999 → After p name → chainB p (putB xs name num) = true
  | [], p, name, num, _, hn, hr, ha => by
    simp only [putB_nil, chainB, Bool.and_true, stepOk_iff]
    exact ⟨hn, hr, ha⟩
  | x :: xs, p, name, num, hc, hn, hr, ha => by
    have hc0 := hc
    simp only [chainB, Bool.and_eq_true] at hc
    cases h : ltS x.1 name with
    | true =>
      rw [putB_lt h]
      simp only [chainB, Bool.and_eq_true]
      exact ⟨hc.1, chain_put xs (some x.1) name num hc.2 hn hr h⟩
    | false =>
      rw [putB_ge hc0 h]
      have h1 : stepOk p (name, num) = true := (stepOk_iff _ _).2 ⟨hn, hr, ha⟩
      by_cases e : x.1 = name
      · rw [if_pos e]
        subst e
        simp only [chainB, Bool.and_eq_true]
        exact ⟨h1, hc.2⟩
      · rw [if_neg e]
        have k : ltS name x.1 = true := by
          rcases lt_tri x.1 name with k | k | k
          · rw [h] at k; cases k
          · exact absurd k e
          · exact k
        have hx := (stepOk_iff _ _).1 hc.1
        simp only [chainB, Bool.and_eq_true]
        exact ⟨h1, (stepOk_iff _ _).2 ⟨hx.1, hx.2.1, k⟩, hc.2⟩

theorem put_len : ∀ (xs : List VarD) (p : Option ByteArray) (name : ByteArray) (num : Int), chainB p xs = true → (putB xs name num).length ≤ xs.length + 1
  | [], _, _, _, _ => Nat.le_refl _
  | x :: xs, p, name, num, hc => by
    cases h : ltS x.1 name with
    | true =>
      simp only [chainB, Bool.and_eq_true] at hc
      have := put_len xs (some x.1) name num hc.2
      rw [putB_lt h, List.length_cons, List.length_cons]
      omega
    | false =>
      rw [putB_ge hc h, List.length_cons]
      split
      · rw [List.length_cons]; omega
      · exact Nat.le_refl _

/-- What is set is got. -/
theorem get_put : ∀ (xs : List VarD) (p : Option ByteArray) (name : ByteArray) (num : Int), chainB p xs = true → getB (putB xs name num) name = some num
  | [], _, name, num, _ => by simp [putB_nil, getB]
  | x :: xs, p, name, num, hc => by
    cases h : ltS x.1 name with
    | true =>
      simp only [chainB, Bool.and_eq_true] at hc
      rw [putB_lt h, getB, if_neg (lt_ne h)]
      exact get_put xs (some x.1) name num hc.2
    | false => rw [putB_ge hc h, getB, if_pos rfl]
/-- All else stays. -/
theorem get_other : ∀ (xs : List VarD) (p : Option ByteArray) (name : ByteArray) (num : Int) (k : ByteArray), chainB p xs = true → k ≠ name → getB (putB xs name num) k = getB xs k
  | [], _, name, num, k, _, hk => by simp [putB_nil, getB, Ne.symm hk]
  | x :: xs, p, name, num, k, hc, hk => by
    cases h : ltS x.1 name with
    | true =>
      simp only [chainB, Bool.and_eq_true] at hc
      rw [putB_lt h, getB, getB, get_other xs (some x.1) name num k hc.2 hk]
    | false =>
      rw [putB_ge hc h, getB, if_neg (fun e => hk e.symm)]
      by_cases e : x.1 = name
      · rw [if_pos e, getB, if_neg (fun e2 => hk (by rw [← e2]; exact e))]
      · rw [if_neg e]
/-- Each of a right list is got. -/
theorem get_mem : ∀ (xs : List VarD) (p : Option ByteArray), chainB p xs = true → ∀ x ∈ xs, getB xs x.1 = some x.2
  | [], _, _, _, hx => by cases hx
  | y :: ys, p, hc, x, hx => by
    simp only [chainB, Bool.and_eq_true] at hc
    rcases List.mem_cons.1 hx with rfl | hx
    · rw [getB, if_pos rfl]
    · have := (chain_all ys (some y.1) hc.2 x hx).2.2
      rw [getB, if_neg (lt_ne this)]
      exact get_mem ys (some y.1) hc.2 x hx
theorem put_mem {xs : List VarD} {name : ByteArray} {num : Int} {x : VarD} (h : x ∈ putB xs name num) : x ∈ xs ∨ x = (name, num) := by
  rw [putB] at h
  rcases List.mem_append.1 h with h | h
  · rcases List.mem_append.1 h with h | h
    · exact .inl (List.mem_filter.1 h).1
    · exact .inr (by simpa using h)
  · exact .inl (List.mem_filter.1 h).1

end Go.Proofs.YtofpoiccghpliaaGreatDoor

namespace Go.Proofs.YtofpoiccghpliaaGreatDoor
open Go.RowKit Go.Maps

/-- Do the names ascend, each held against the one ahead of it? -/
def ascF (p : Option ByteArray) : List VarD → Bool
  | [] => true
  | x :: xs => (match p with | none => true | some q => Op.bytesLess q.toList x.1.toList) && ascF (some x.1) xs
theorem ascF_cons (p : Option ByteArray) (x : VarD) (xs : List VarD) : ascF p (x :: xs) = ((match p with | none => true | some q => Op.bytesLess q.toList x.1.toList) && ascF (some x.1) xs) := by cases p <;> rfl
def ascB (xs : List VarD) : Bool := ascF none xs
/-- One of a right list by itself. -/
def oneOk (x : VarD) : Bool := nameB x.1 && decide (-9999 ≤ x.2 ∧ x.2 ≤ 9999)

theorem chain_parts : ∀ (xs : List VarD) (p : Option ByteArray), chainB p xs = (ascF p xs && xs.all oneOk)
  | [], _ => rfl
  | x :: xs, p => by
    rw [chainB, ascF_cons, List.all_cons, chain_parts xs (some x.1)]
    unfold stepOk oneOk
    cases nameB x.1 <;> cases decide (-9999 ≤ x.2 ∧ x.2 ≤ 9999) <;> cases p <;> simp [Bool.and_assoc]
theorem envB_parts (xs : List VarD) : envB xs = (decide (xs.length ≤ 6) && ascB xs && xs.all oneOk) := by
  rw [envB, chain_parts, ascB, Bool.and_comm, Bool.and_assoc]

theorem ascF_snoc (l : List VarD) : ∀ (p : Option ByteArray) (x : VarD), ascF p (l ++ [x]) = (ascF p l && (match lastN p l with | none => true | some q => Op.bytesLess q.toList x.1.toList)) := by
  induction l with
  | nil => intro p x; simp [ascF, lastN]
  | cons y l ih => intro p x; simp only [List.cons_append, ascF, lastN, ih, Bool.and_assoc]
theorem ascF_app (l m : List VarD) : ∀ (p : Option ByteArray), ascF p (l ++ m) = (ascF p l && ascF (lastN p l) m) := by
  induction l with
  | nil => intro p; simp [ascF, lastN]
  | cons y l ih => intro p; simp only [List.cons_append, ascF, lastN, ih, Bool.and_assoc]
theorem ascB_next (xs : List VarD) (k : Nat) (h0 : 0 < k) (hk : k < xs.length) : ascB (xs.take (k + 1)) = (ascB (xs.take k) && Op.bytesLess xs[k - 1].1.toList xs[k].1.toList) := by
  rw [ascB, List.take_succ_eq_append_getElem hk, ascF_snoc, lastN_take xs k hk h0]
  rfl
theorem ascB_no {xs : List VarD} {k : Nat} (h0 : 0 < k) (hk : k < xs.length) (h : Op.bytesLess xs[k - 1].1.toList xs[k].1.toList = false) : ascB xs = false := by
  rw [← List.take_append_drop (k + 1) xs, ascB, ascF_app, ← ascB, ascB_next xs k h0 hk, h]
  simp
theorem ascB_one {xs : List VarD} (h : xs.length ≤ 1) : ascB xs = true := by
  match xs, h with
  | [], _ => rfl
  | [_], _ => rfl

/-- The same, all with all. -/
def Asc (xs : List VarD) : Prop := xs.Pairwise (fun a b => ltS a.1 b.1 = true)
theorem ascF_iff : ∀ (xs : List VarD) (p : Option ByteArray), ascF p xs = true ↔ Asc xs ∧ ∀ x ∈ xs, After p x.1
  | [], _ => by simp [ascF, Asc]
  | x :: xs, p => by
    have ih := ascF_iff xs (some x.1)
    have e : (match p with | none => true | some q => Op.bytesLess q.toList x.1.toList) = true ↔ After p x.1 := by
      cases p <;> simp [After, ltS]
    rw [ascF_cons, Bool.and_eq_true, e, ih, show Asc (x :: xs) ↔ _ from List.pairwise_cons]
    constructor
    · rintro ⟨h1, h2, h3⟩
      refine ⟨⟨h3, h2⟩, fun y hy => ?_⟩
      rcases List.mem_cons.1 hy with rfl | hy
      · exact h1
      · exact h1.trans (h3 y hy)
    · rintro ⟨⟨h3, h2⟩, h4⟩
      exact ⟨h4 x (List.mem_cons_self ..), h2, h3⟩
theorem ascB_iff (xs : List VarD) : ascB xs = true ↔ Asc xs := by
  rw [ascB, ascF_iff]
  exact ⟨fun h => h.1, fun h => ⟨h, fun _ _ => trivial⟩⟩

theorem asc_put {xs : List VarD} {name : ByteArray} {num : Int} (h : Asc xs) : Asc (putB xs name num) := by
  unfold Asc putB
  rw [List.pairwise_append, List.pairwise_append]
  refine ⟨⟨h.filter _, List.pairwise_singleton _ _, fun a ha b hb => ?_⟩, h.filter _, fun a ha b hb => ?_⟩
  · obtain rfl : b = (name, num) := by simpa using hb
    exact (List.mem_filter.1 ha).2
  · have hb2 : ltS name b.1 = true := by have := (List.mem_filter.1 hb).2; rwa [gt_iff] at this
    rcases List.mem_append.1 ha with ha | ha
    · exact lt_trans' (List.mem_filter.1 ha).2 hb2
    · obtain rfl : a = (name, num) := by simpa using ha
      exact hb2
theorem asc_nodup {xs : List VarD} (h : Asc xs) : (xs.map (fun x => x.1.data.toList)).Nodup := by
  refine List.pairwise_map.2 (List.Pairwise.imp (R := fun a b : VarD => ltS a.1 b.1 = true) ?_ h)
  intro a b hab e
  exact lt_ne hab (ByteArray.ext (Array.toList_inj.1 e))
theorem mem_put (xs : List VarD) (name : ByteArray) (num : Int) (x : VarD) : x ∈ putB xs name num ↔ (x ∈ xs ∧ x.1 ≠ name) ∨ x = (name, num) := by
  rw [putB, List.mem_append, List.mem_append, List.mem_filter, List.mem_filter, List.mem_singleton]
  constructor
  · rintro ((⟨h, k⟩ | h) | ⟨h, k⟩)
    · exact .inl ⟨h, lt_ne k⟩
    · exact .inr h
    · rw [gt_iff] at k; exact .inl ⟨h, fun e => lt_ne k e.symm⟩
  · rintro (⟨h, k⟩ | h)
    · rcases lt_tri x.1 name with j | j | j
      · exact .inl (.inl ⟨h, j⟩)
      · exact absurd j k
      · exact .inr ⟨h, by rw [gt_iff]; exact j⟩
    · exact .inl (.inr h)

/-- What the program's EnvSet leaves, and whether it is right: a list that does not ascend is refused as it is. -/
def setOkI (xs : List VarD) (name : ByteArray) (num : Int) : Bool := ascB xs && envB (putB xs name num)
def setLI (xs : List VarD) (name : ByteArray) (num : Int) : List VarD := if setOkI xs name num = true then putB xs name num else xs
theorem setI_asc {xs : List VarD} (name : ByteArray) (num : Int) (h : ascB xs = true) : setOkI xs name num = setOk xs name num ∧ setLI xs name num = setL xs name num := by
  have e : setOkI xs name num = setOk xs name num := by rw [setOkI, h, setOk, Bool.true_and]
  exact ⟨e, by rw [setLI, e, setL, setOk]⟩
theorem setI_no {xs : List VarD} (name : ByteArray) (num : Int) (h : setOk xs name num = false) : setOkI xs name num = setOk xs name num ∧ setLI xs name num = setL xs name num := by
  have e : setOkI xs name num = setOk xs name num := by rw [setOkI, h, show envB (putB xs name num) = false from h, Bool.and_false]
  exact ⟨e, by rw [setLI, e, setL, setOk]⟩

/-- A map that holds just these names with their numbers. -/
def MapIs {H : Type} (D : DataW H) (ys : List VarD) : Prop :=
  IsMap D ∧ (∀ x : List UInt8, Maps.has D (.string x) = true ↔ ∃ y ∈ ys, y.1.data.toList = x) ∧ ∀ y ∈ ys, ∀ z, D.atKey (.string y.1.data.toList) z = .lit (.int .i64 y.2)
theorem mapIs_nil {H : Type} : MapIs (.map [] : DataW H) [] := ⟨isMap_empty, fun x => by simp [Maps.has], fun y hy => by cases hy⟩
theorem mapIs_mem {H : Type} {D : DataW H} {ys zs : List VarD} (h : MapIs D ys) (e : ∀ y, y ∈ zs ↔ y ∈ ys) : MapIs D zs :=
  ⟨h.1, fun x => (h.2.1 x).trans ⟨fun ⟨y, hy, k⟩ => ⟨y, (e y).2 hy, k⟩, fun ⟨y, hy, k⟩ => ⟨y, (e y).1 hy, k⟩⟩, fun y hy => h.2.2 y ((e y).1 hy)⟩
theorem dl_inj {a b : ByteArray} (h : a.data.toList = b.data.toList) : a = b := ByteArray.ext (Array.toList_inj.1 h)
theorem mapIs_put {H : Type} {D : DataW H} {ys : List VarD} (h : MapIs D ys) (name : ByteArray) (num : Int) : MapIs (D.put (.string name.data.toList) (.lit (.int .i64 num))) (ys.filter (fun y => decide (y.1 ≠ name)) ++ [(name, num)]) := by
  refine ⟨h.1.put _ _, fun x => ?_, fun y hy z => ?_⟩
  · by_cases hx : x = name.data.toList
    · subst hx
      rw [has_put_same h.1 (by simp [WideAt.IsKeyLit])]
      exact ⟨fun _ => ⟨(name, num), by simp, rfl⟩, fun _ => rfl⟩
    · rw [has_put_other (by simpa using hx), h.2.1]
      constructor
      · rintro ⟨y, hy, rfl⟩
        exact ⟨y, List.mem_append.2 (.inl (List.mem_filter.2 ⟨hy, by simpa using fun e : y.1 = name => hx (by rw [e])⟩)), rfl⟩
      · rintro ⟨y, hy, rfl⟩
        rcases List.mem_append.1 hy with hy | hy
        · exact ⟨y, (List.mem_filter.1 hy).1, rfl⟩
        · obtain rfl : y = (name, num) := by simpa using hy
          exact absurd rfl hx
  · rcases List.mem_append.1 hy with hy | hy
    · have hne : y.1 ≠ name := by simpa using (List.mem_filter.1 hy).2
      rw [atKey_put_other (by simpa using fun e => hne (dl_inj e))]
      exact h.2.2 y (List.mem_filter.1 hy).1 z
    · obtain rfl : y = (name, num) := by simpa using hy
      rw [atKey_put_same h.1 (by simp [WideAt.IsKeyLit])]
theorem mapIs_del {H : Type} {D : DataW H} {ys : List VarD} (h : MapIs D ys) (name : ByteArray) : MapIs (D.del (.string name.data.toList)) (ys.filter (fun y => decide (y.1 ≠ name))) := by
  refine ⟨h.1.del _, fun x => ?_, fun y hy z => ?_⟩
  · by_cases hx : x = name.data.toList
    · subst hx
      rw [has_del_same]
      constructor
      · intro k; cases k
      · rintro ⟨y, hy, k⟩
        have hne : y.1 ≠ name := by simpa using (List.mem_filter.1 hy).2
        exact absurd (dl_inj k) hne
    · rw [has_del_other (by simpa using hx), h.2.1]
      constructor
      · rintro ⟨y, hy, rfl⟩
        exact ⟨y, List.mem_filter.2 ⟨hy, by simpa using fun e : y.1 = name => hx (by rw [e])⟩, rfl⟩
      · rintro ⟨y, hy, rfl⟩
        exact ⟨y, (List.mem_filter.1 hy).1, rfl⟩
  · have hne : y.1 ≠ name := by simpa using (List.mem_filter.1 hy).2
    rw [atKey_del_other (by simpa using fun e => hne (dl_inj e))]
    exact h.2.2 y (List.mem_filter.1 hy).1 z
/-- A list that ascends, laid into a map name by name. -/
theorem mapIs_next {H : Type} {D : DataW H} {xs : List VarD} {k : Nat} (ha : Asc xs) (hk : k < xs.length) (h : MapIs D (xs.take k)) : MapIs (D.put (.string xs[k].1.data.toList) (.lit (.int .i64 xs[k].2))) (xs.take (k + 1)) := by
  have hno : ∀ y ∈ xs.take k, y.1 ≠ xs[k].1 := fun y hy => by
    have h1 : Asc (xs.take (k + 1)) := ha.sublist (List.take_sublist _ _)
    rw [List.take_succ_eq_append_getElem hk, Asc, List.pairwise_append] at h1
    exact lt_ne (h1.2.2 y hy xs[k] (by simp))
  refine mapIs_mem (mapIs_put h xs[k].1 xs[k].2) (fun y => ?_)
  rw [List.take_succ_eq_append_getElem hk, List.mem_append, List.mem_append, List.mem_filter]
  constructor
  · rintro (h | h)
    · exact .inl ⟨h, by simpa using hno y h⟩
    · exact .inr h
  · rintro (h | h)
    · exact .inl h.1
    · exact .inr h
/-- Set anew behind a delete: the list with this number in its place. -/
theorem mapIs_set {H : Type} {D : DataW H} {xs : List VarD} (h : MapIs D xs) (name : ByteArray) (num : Int) : MapIs ((D.del (.string name.data.toList)).put (.string name.data.toList) (.lit (.int .i64 num))) (putB xs name num) := by
  refine mapIs_mem (mapIs_put (mapIs_del h name) name num) (fun y => ?_)
  rw [mem_put, List.mem_append, List.mem_filter, List.mem_filter]
  simp only [decide_eq_true_eq, List.mem_singleton]
  constructor
  · rintro (h | h)
    · exact .inl ⟨h, h.2⟩
    · exact .inr h
  · rintro (h | h)
    · exact .inl h.1
    · exact .inr h

/-- The keys of such a map, sorted, are the names in order. -/
theorem keys_sorted {H : Type} {D : DataW H} {P : Program} {k : TypeId} {R : Value → Option (DataW H × List MemPlace)} {w : World} {b n : Nat} {ys : List VarD} {ss : List (List UInt8)} (hown : w.ownsMap P k R b n D) (K : Keyed P k) (hk : P.underlying k = some .string) (ha : Asc ys) (h : MapIs D ys)
    (hp : ss.Perm (strKeys D)) : ss.mergeSort (fun x y => decide (x ≤ y)) = ys.map (fun y => y.1.data.toList) := by
  obtain ⟨es, hD, hpw, _⟩ := hown.entries K
  obtain ⟨es', hD', hko⟩ := hown.keysOf
  obtain rfl : es = es' := by rw [hD] at hD'; simpa using hD'
  subst hD
  have h2 : (ys.map (fun y => y.1.data.toList)).Perm (strKeys (.map es)) :=
    perm_strKeys hpw (fun p hp => by obtain ⟨v, hv⟩ := hko p hp; obtain ⟨x, _, hx, _⟩ := Maps.keyOf_str hk hv; exact ⟨x, hx⟩) (asc_nodup ha) (fun x => by rw [h.2.1 x]; simp)
  have tr : ∀ a b c : List UInt8, leB a b = true → leB b c = true → leB a c = true := fun a b c h1 h2 => by simp only [leB, decide_eq_true_eq] at *; exact List.le_trans h1 h2
  have ltot : ∀ a b : List UInt8, (leB a b || leB b a) = true := fun a b => by simp only [leB, Bool.or_eq_true, decide_eq_true_eq]; exact List.le_total a b
  refine List.Perm.eq_of_pairwise (le := fun a b => leB a b = true) (fun a b _ _ h1 h2 => ?_) (List.pairwise_mergeSort tr ltot ss) ?_ (((List.mergeSort_perm ss leB).trans hp).trans h2.symm)
  · simp only [leB, decide_eq_true_eq] at h1 h2
    exact List.le_antisymm h1 h2
  · refine List.pairwise_map.2 (ha.imp fun {a b} hab => ?_)
    simp only [leB, decide_eq_true_eq]
    have h3 : Op.bytesLess a.1.toList b.1.toList = true := hab
    rw [bytesLess_eq, decide_eq_true_eq, ByteArray.toList_eq, ByteArray.toList_eq] at h3
    exact List.le_of_lt h3
theorem size_map {H : Type} {D : DataW H} {P : Program} {k : TypeId} {R : Value → Option (DataW H × List MemPlace)} {w : World} {b n : Nat} {ys : List VarD} (hown : w.ownsMap P k R b n D) (K : Keyed P k) (hk : P.underlying k = some .string) (ha : Asc ys) (h : MapIs D ys) : Maps.size D = ys.length := by
  obtain ⟨es, hD, hpw, _⟩ := hown.entries K
  obtain ⟨es', hD', hko⟩ := hown.keysOf
  obtain rfl : es = es' := by rw [hD] at hD'; simpa using hD'
  subst hD
  have h2 : (ys.map (fun y => y.1.data.toList)).Perm (strKeys (.map es)) :=
    perm_strKeys hpw (fun p hp => by obtain ⟨v, hv⟩ := hko p hp; obtain ⟨x, _, hx, _⟩ := Maps.keyOf_str hk hv; exact ⟨x, hx⟩) (asc_nodup ha) (fun x => by rw [h.2.1 x]; simp)
  have := h2.length_eq
  simpa [strKeys, Maps.size] using this.symm

end Go.Proofs.YtofpoiccghpliaaGreatDoor
