/- The program's OpsOk. -/
import Derived.Test.YtbjkfecailnelaaOpS
import Derived.Test.YtbjkfecailnelaaShelf
namespace Go.Proofs.Ytbjkfecailnelaa
open Go.RowKit
set_option linter.unusedVariables false

def right13 (x : OpD) : Bool := sign13 x.sign && decide (1 ≤ x.level ∧ x.level ≤ 9)
theorem one_byte13 {s : ByteArray} (h : s.size = 1) : ∃ c, s = ⟨#[c]⟩ := by
  obtain ⟨⟨l⟩⟩ := s
  match l, h with
  | [c], _ => exact ⟨c, rfl⟩
theorem sign_index (c : UInt8) : sign13 ⟨#[c]⟩ = decide (0 ≤ Lib.indexByte (ByteArray.mk #[43, 45, 42, 94, 60, 62, 61, 44]).data.toList c) := by
  have : ∀ n : Fin 256, sign13 ⟨#[UInt8.ofNat n.val]⟩ = decide (0 ≤ Lib.indexByte (ByteArray.mk #[43, 45, 42, 94, 60, 62, 61, 44]).data.toList (UInt8.ofNat n.val)) := by decide +kernel
  have h := this ⟨c.toNat, c.toNat_lt⟩
  have e : UInt8.ofNat c.toNat = c := by simp
  simpa only [e] using h
theorem sign_size {s : ByteArray} (h : sign13 s = true) : s.size = 1 := by
  unfold sign13 at h
  obtain ⟨b, _, hb⟩ := List.any_eq_true.1 h
  rw [of_decide_eq_true hb]
  rfl
theorem right13_one (x : OpD) (c : UInt8) (h : x.sign = ⟨#[c]⟩) : right13 x = (decide (0 ≤ Lib.indexByte (ByteArray.mk #[43, 45, 42, 94, 60, 62, 61, 44]).data.toList c) && decide (1 ≤ x.level ∧ x.level ≤ 9)) := by
  rw [right13, h, sign_index]
theorem right13_not (x : OpD) (h : ¬ x.sign.size = 1) : right13 x = false := by
  rw [right13]
  cases hs : sign13 x.sign with
  | false => rfl
  | true => exact absurd (sign_size hs) h

set_option maxHeartbeats 1600000 in
theorem isRightOp_any (x : OpD) (w : World) (hm : x.sign.size ≤ maxLen) :
    Calls Try.prog 28 #[.agg #[.string x.sign, .int .i64 x.level, .bool x.right]] w fun e w' => e = .returned (.bool (right13 x)) ∧ Below w.heap.size w w' := by
  have BW : Hid (∀ s : ByteArray, Below w.heap.size w (w.alloc (.cells #[.string s, .int .i64 x.level, .bool x.right] 44))) := fun s => (Below.refl _ _).alloc (Nat.le_refl _) _
  unfold maxLen at hm
  by_cases h1 : x.sign.size = 1
  · obtain ⟨c, hc⟩ := one_byte13 h1
    rw [right13_one x c hc, hc]
    have HC : Hid (∀ W : World, _) := Try.strings_Contains_one ⟨#[43, 45, 42, 94, 60, 62, 61, 44]⟩ c
    clear h1 hc hm
    generalize x.level = l at *
    generalize x.right = r at *
    have hz : (ByteArray.mk #[c]).size = 1 := rfl
    generalize (ByteArray.mk #[c]) = s at *
    have hz' : ((s.size : Int) == 1) = true := by rw [hz]; rfl
    clear hz
    by_cases h2 : 1 ≤ l
    · by_cases h3 : l ≤ 9
      · rw [decide_eq_true (show 1 ≤ l ∧ l ≤ 9 from ⟨h2, h3⟩), Bool.and_true]
        generalize decide (0 ≤ Lib.indexByte _ c) = q at *
        cases q
        all_goals
          go_enter Try.func28, Try.ntmps28
          go_wp2_with (go_at_call 39; refine (HC.out _).mono ?_; rintro e wq ⟨rfl, hw⟩; rw [hw]; clear hw)
          go_ret
          exact ⟨rfl, BW.out _⟩
      · rw [decide_eq_false (show ¬ (1 ≤ l ∧ l ≤ 9) by omega), Bool.and_false]
        have D3 : Hid (decide (l ≤ 9) = false) := decide_eq_false h3
        generalize decide (0 ≤ Lib.indexByte _ c) = q at *
        cases q
        all_goals
          go_enter Try.func28, Try.ntmps28
          go_wp2_with (go_at_call 39; refine (HC.out _).mono ?_; rintro e wq ⟨rfl, hw⟩; rw [hw]; clear hw)
          go_ret
          first
            | exact ⟨rfl, BW.out _⟩
            | exact ⟨by show Ending.returned (.bool (decide (l ≤ 9))) = _; rw [D3.out], BW.out _⟩
    · rw [decide_eq_false (show ¬ (1 ≤ l ∧ l ≤ 9) by omega), Bool.and_false]
      generalize decide (0 ≤ Lib.indexByte _ c) = q at *
      cases q
      all_goals
        go_enter Try.func28, Try.ntmps28
        go_wp2_with (go_at_call 39; refine (HC.out _).mono ?_; rintro e wq ⟨rfl, hw⟩; rw [hw]; clear hw)
        go_ret
        exact ⟨rfl, BW.out _⟩
  · rw [right13_not x h1]
    have hz' : ((x.sign.size : Int) == 1) = false := by simp; omega
    generalize x.sign = s at *
    generalize x.level = l at *
    generalize x.right = r at *
    go_enter Try.func28, Try.ntmps28
    go_wp2
    go_ret
    exact ⟨rfl, BW.out _⟩

set_option maxHeartbeats 1600000 in
theorem isAtOdds_any (x y : OpD) (w : World) :
    Calls Try.prog 31 #[.agg #[.string x.sign, .int .i64 x.level, .bool x.right], .agg #[.string y.sign, .int .i64 y.level, .bool y.right]] w fun e w' => e = .returned (.bool (!pair13 y x)) ∧ Below w.heap.size w w' := by
  unfold pair13
  generalize x.sign = s at *
  generalize x.level = l at *
  generalize x.right = r at *
  generalize y.sign = s' at *
  generalize y.level = l' at *
  generalize y.right = r' at *
  by_cases h1 : s = s'
  · have hq := beq_yes h1
    rw [show decide (s' = s) = true from decide_eq_true h1.symm]
    clear h1
    go_enter Try.func31, Try.ntmps31
    go_wp2
    go_ret
    exact ⟨rfl, ((Below.refl _ _).alloc (Nat.le_refl _) _).alloc (by simp) _⟩
  · have hq := beq_no h1
    rw [show decide (s' = s) = false from decide_eq_false (fun h => h1 h.symm)]
    clear h1
    by_cases h2 : l = l'
    · subst h2
      rw [show decide (l = l) = true from decide_eq_true rfl]
      cases r <;> cases r'
      all_goals
        go_enter Try.func31, Try.ntmps31
        go_wp2
        go_ret
        exact ⟨rfl, ((Below.refl _ _).alloc (Nat.le_refl _) _).alloc (by simp) _⟩
    · have h2' : (l == l') = false := by simpa using h2
      rw [show decide (l' = l) = false from decide_eq_false (fun h => h2 h.symm)]
      clear h2
      go_enter Try.func31, Try.ntmps31
      go_wp2
      go_ret
      exact ⟨rfl, ((Below.refl _ _).alloc (Nat.le_refl _) _).alloc (by simp) _⟩

set_option maxHeartbeats 1600000 in
theorem opsOk1_any (x y : OpD) (B : Nat) (w : World) (c0 : w.cell? ⟨B, 0, none⟩ = some (.string x.sign)) (c1 : w.cell? ⟨B, 1, none⟩ = some (.int .i64 x.level)) (c2 : w.cell? ⟨B, 2, none⟩ = some (.bool x.right)) :
    Calls Try.prog 30 #[.agg #[.string y.sign, .int .i64 y.level, .bool y.right], .pointer (some ⟨B, 0, none⟩)] w fun e w' => e = .returned (.bool (!pair13 y x)) ∧ Below w.heap.size w w' := by
  have BW : Hid (Below w.heap.size w (w.alloc (.cells #[.string y.sign, .int .i64 y.level, .bool y.right] 44))) := (Below.refl _ _).alloc (Nat.le_refl _) _
  have n0 : (w.alloc (.cells #[.string y.sign, .int .i64 y.level, .bool y.right] 44)).cell? ⟨B, 0, none⟩ = some (.string x.sign) := cell_keep c0 BW.out
  have n1 : (w.alloc (.cells #[.string y.sign, .int .i64 y.level, .bool y.right] 44)).cell? ⟨B, 1, none⟩ = some (.int .i64 x.level) := cell_keep c1 BW.out
  have n2 : (w.alloc (.cells #[.string y.sign, .int .i64 y.level, .bool y.right] 44)).cell? ⟨B, 2, none⟩ = some (.bool x.right) := cell_keep c2 BW.out
  have HA : Hid (∀ W : World, _) := isAtOdds_any x y
  clear c0 c1 c2
  go_enter Try.func30, Try.ntmps30
  go_wp2_with (go_at_call 31; refine (HA.out _).mono ?_; rintro e w1 ⟨rfl, hb1⟩)
  go_ret
  exact ⟨rfl, BW.out.trans (hb1.mono BW.out.size)⟩

def idxF (p : OpD → Bool) : Nat → List OpD → Int
  | _, [] => -1
  | i, x :: xs => if p x = true then i else idxF p (i + 1) xs
def idxI (p : OpD → Bool) (xs : List OpD) : Int := idxF p 0 xs
theorem idxF_drop (p : OpD → Bool) (xs : List OpD) (k : Nat) (h : k < xs.length) : idxF p k (xs.drop k) = if p xs[k] = true then (k : Int) else idxF p (k + 1) (xs.drop (k + 1)) := by
  rw [List.drop_eq_getElem_cons h, idxF]
theorem idxF_any (p : OpD → Bool) : ∀ (xs : List OpD) (i : Nat), decide (0 ≤ idxF p i xs) = xs.any p
  | [], i => rfl
  | x :: xs, i => by
    rw [idxF, List.any_cons]
    split
    · rename_i h; rw [h]; simp
    · rename_i h; rw [idxF_any p xs (i + 1)]; simp [h]

set_option maxHeartbeats 1600000 in
theorem indexFuncA_any (p : OpD → Bool) (cv v : Value) (xs : List OpD) (w : World) (hn : xs.length ≤ 1048576) (h : Ops w v xs)
    (hC : ∀ x ∈ xs, ∀ W : World, Below w.heap.size w W → Calls Try.prog 30 #[.agg #[.string x.sign, .int .i64 x.level, .bool x.right], cv] W fun e w' => e = .returned (.bool (p x)) ∧ Below W.heap.size W w') :
    Calls Try.prog 40 #[v, .func (.func 30) #[] #[cv]] w fun e w' => e = .returned (.int .i64 (idxI p xs)) ∧ Below w.heap.size w w' := by
  obtain ⟨a, cap, rfl⟩ := h.slice
  have HR : Hid (Ops w (.slice a xs.length cap) xs) := h
  have HC : Hid (∀ x ∈ xs, ∀ W : World, Below w.heap.size w W → Calls Try.prog 30 #[.agg #[.string x.sign, .int .i64 x.level, .bool x.right], cv] W fun e w' => e = .returned (.bool (p x)) ∧ Below W.heap.size W w') := hC
  clear h hC
  go_enter Try.func40, Try.ntmps40
  go_wp2
  go_loopw [8] (fun iv wr => ∃ k : Nat, iv = .int .i64 k ∧ k ≤ xs.length ∧ idxF p k (xs.drop k) = idxI p xs ∧ Below w.heap.size w wr) (fun iv _ => xs.length - (intOf iv).toNat)
  case atStart => exact ⟨0, rfl, Nat.zero_le _, rfl, Below.refl _ _⟩
  case round =>
    obtain ⟨k, rfl, hk, hat, hbw⟩ := hrel
    have HA : Hid (idxF p k (xs.drop k) = idxI p xs) := hat
    have BW : Hid (Below w.heap.size w wr) := hbw
    clear hat hbw
    by_cases hlt : k < xs.length
    · have HD : Hid (_ = _) := idxF_drop p xs k hlt
      obtain ⟨b, off, rfl, n0, n1, n2⟩ := (HR.out.below BW.out).at hlt
      have i4 : (k : Int) < (xs.length : Int) := by omega
      have HCl : Hid (∀ W : World, Below w.heap.size w W → _) := HC.out xs[k] (List.getElem_mem hlt)
      by_cases he : p xs[k] = true
      · rw [he] at HCl
        have HV : Hid (idxI p xs = (k : Int)) := by rw [Hid, ← HA.out, HD.out, if_pos he]
        clear he
        go_wp2_with (go_at_call 30; refine (HCl.out _ BW.out).mono ?_; rintro e w1 ⟨rfl, hb1⟩)
        go_ret
        rw [HV.out]
        exact ⟨rfl, BW.out.trans (hb1.mono BW.out.size)⟩
      · have HN : Hid (idxF p (k + 1) (xs.drop (k + 1)) = idxI p xs) := by rw [Hid, ← HA.out, HD.out, if_neg he]
        rw [Bool.not_eq_true] at he
        rw [he] at HCl
        clear he
        go_wp2_with (go_at_call 30; refine (HCl.out _ BW.out).mono ?_; rintro e w1 ⟨rfl, hb1⟩)
        go_roundw
        case rel => exact ⟨k + 1, by go_num, by omega, HN.out, BW.out.trans (hb1.mono BW.out.size)⟩
        case measure => simp [intOf]; omega
    · obtain rfl : k = xs.length := by omega
      have HV : Hid (idxI p xs = -1) := by rw [Hid, ← HA.out, List.drop_of_length_le (Nat.le_refl _)]; rfl
      go_wp2
      go_ret
      rw [HV.out]
      exact ⟨rfl, BW.out⟩

set_option maxHeartbeats 1600000 in
theorem containsFunc13_any (p : OpD → Bool) (cv v : Value) (xs : List OpD) (w : World) (hn : xs.length ≤ 1048576) (h : Ops w v xs)
    (hC : ∀ x ∈ xs, ∀ W : World, Below w.heap.size w W → Calls Try.prog 30 #[.agg #[.string x.sign, .int .i64 x.level, .bool x.right], cv] W fun e w' => e = .returned (.bool (p x)) ∧ Below W.heap.size W w') :
    Calls Try.prog 29 #[v, .func (.func 30) #[] #[cv]] w fun e w' => e = .returned (.bool (xs.any p)) ∧ Below w.heap.size w w' := by
  have HI : Hid (∀ _ : Unit, _) := fun _ => indexFuncA_any p cv v xs w hn h hC
  have HV : Hid (decide (0 ≤ idxI p xs) = xs.any p) := idxF_any p xs 0
  clear h hC
  obtain ⟨z, hz⟩ : ∃ z, idxI p xs = z := ⟨_, rfl⟩
  rw [hz] at HI HV
  rw [← HV.out]
  clear HV hz
  by_cases h0 : 0 ≤ z
  · rw [decide_eq_true h0]
    go_enter Try.func29, Try.ntmps29
    go_wp2_with (go_at_call 40; refine (HI.out ()).mono ?_; rintro e w1 ⟨rfl, hb1⟩)
    go_ret
    exact ⟨rfl, hb1⟩
  · rw [decide_eq_false h0]
    have D0 : Hid (decide (0 ≤ z) = false) := decide_eq_false h0
    go_enter Try.func29, Try.ntmps29
    go_wp2_with (go_at_call 40; refine (HI.out ()).mono ?_; rintro e w1 ⟨rfl, hb1⟩)
    go_ret
    exact ⟨by show Ending.returned (.bool (decide (0 ≤ z))) = _; rw [D0.out], hb1⟩

theorem Ops.take {w : World} {a : Option Addr} {n cap : Nat} {xs : List OpD} (h : Ops w (.slice a n cap) xs) (k : Nat) (hk : k ≤ xs.length) : Ops w (.slice a k cap) (xs.take k) := by
  have hrm := h.room
  obtain ⟨⟨a', cap', e, hc, hh⟩, _⟩ := h
  cases e
  have hl : (xs.take k).length = k := by rw [List.length_take]; omega
  refine ⟨⟨a, cap, by rw [hl], hc, fun h0 => ?_⟩, fun _ _ _ e => by cases e; omega⟩
  obtain ⟨b, off, rfl, hb, hr⟩ := hh (by omega)
  refine ⟨b, off, rfl, hb, fun i hi => ?_⟩
  obtain ⟨vs, h1, h2, h3⟩ := hr i (by omega)
  exact ⟨vs, h1, h2, by rw [List.getElem_take]; exact h3⟩
theorem ops_round {xs : List OpD} {k : Nat} (hk : k < xs.length) : op13 xs k (xs.getD k default) = (right13 xs[k] && !((xs.take k).any fun y => !pair13 y xs[k])) := by
  rw [List.getD_eq_getElem?_getD, List.getElem?_eq_getElem hk]
  show op13 xs k xs[k] = _
  rw [op13, right13]
  congr 1
  rw [List.all_eq_not_any_not]

set_option maxHeartbeats 3200000 in
set_option maxRecDepth 100000 in
theorem implOpsOk_any (v : Value) (xs : List OpD) (w : World) (hl : xs.length ≤ 1048576) (hin : ∀ x ∈ xs, x.sign.size ≤ maxLen) (h : Ops w v xs) :
    Calls Try.prog 18 #[v] w fun e w' => e = .returned (.bool (opsB xs)) ∧ Below w.heap.size w w' := by
  have hmf : ∀ (fn : Fn) (first cap : Array Value) (w : World), (Instr.makeFunc fn first cap).run Try.prog w = .ok (.func fn first cap) w := fun _ _ _ _ => rfl
  obtain ⟨a, cap, rfl⟩ := h.slice
  have HR : Hid (Ops w (.slice a xs.length cap) xs) := h
  have HIn : Hid (∀ x ∈ xs, x.sign.size ≤ maxLen) := hin
  clear h hin
  by_cases h1 : 1 ≤ xs.length ∧ xs.length ≤ 6
  · obtain ⟨h2, h3⟩ := h1
    have HV : Hid (opsB xs = (List.range xs.length).all fun i => op13 xs i (xs.getD i default)) := by rw [Hid, opsB, decide_eq_true (show 1 ≤ xs.length ∧ xs.length ≤ 6 from ⟨h2, h3⟩), Bool.and_true]
    have h4 : ¬ (xs.length : Int) < 1 := by omega
    have h5 : ¬ (6 : Int) < (xs.length : Int) := by omega
    go_enter Try.func18, Try.ntmps18
    go_wp2
    go_loopw [15] (fun iv wr => ∃ k : Nat, iv = .int .i64 k ∧ k ≤ xs.length ∧ (∀ i, i < k → op13 xs i (xs.getD i default) = true) ∧ Below w.heap.size w wr) (fun iv _ => xs.length - (intOf iv).toNat)
    case atStart => exact ⟨0, rfl, Nat.zero_le _, fun i hi => absurd hi (by omega), Below.refl _ _⟩
    case round =>
      obtain ⟨k, rfl, hk, hat, hbw⟩ := hrel
      have HA : Hid (∀ i, i < k → op13 xs i (xs.getD i default) = true) := hat
      have BW : Hid (Below w.heap.size w wr) := hbw
      clear hat hbw
      by_cases hlt : k < xs.length
      · have HD : Hid (_ = _) := ops_round hlt
        have HRr : Hid (Ops wr (.slice a xs.length cap) xs) := HR.out.below BW.out
        obtain ⟨b, off, rfl, n0, n1, n2⟩ := HRr.out.at hlt
        have i4 : (k : Int) < (xs.length : Int) := by omega
        have hrm := HRr.out.room
        have i5 : (k : Int) ≤ (cap : Int) := by omega
        have i6 : k ≤ cap := by omega
        have BA : Hid (Below w.heap.size w (wr.alloc (.cells #[.string xs[k].sign, .int .i64 xs[k].level, .bool xs[k].right] 44))) := BW.out.alloc BW.out.size _
        have HRt : Hid (∀ W : World, _) := fun W => isRightOp_any xs[k] W (HIn.out _ (List.getElem_mem hlt))
        cases hr : right13 xs[k] with
        | false =>
          have HE : Hid (opsB xs = false) := by
            rw [Hid, HV.out, List.all_eq_false]
            exact ⟨k, List.mem_range.2 hlt, by rw [HD.out, hr, Bool.false_and]; decide⟩
          rw [hr] at HRt
          go_wp2_with (go_at_call 28; refine (HRt.out _).mono ?_; rintro e w1 ⟨rfl, hb1⟩)
          go_ret
          rw [HE.out]
          exact ⟨rfl, BA.out.trans (hb1.mono BA.out.size)⟩
        | true =>
          rw [hr] at HRt HD
          have HCt : Hid (∀ W : World, Below (wr.heap.size + 1) (wr.alloc (.cells #[.string xs[k].sign, .int .i64 xs[k].level, .bool xs[k].right] 44)) W → Calls Try.prog 29 #[.slice (some ⟨b, off, none⟩) k cap, .func (.func 30) #[] #[.pointer (some ⟨wr.heap.size, 0, none⟩)]] W fun e w' => e = .returned (.bool ((xs.take k).any fun y => !pair13 y xs[k])) ∧ Below W.heap.size W w') := fun W hW => by
            have hsz : (wr.alloc (.cells #[.string xs[k].sign, .int .i64 xs[k].level, .bool xs[k].right] 44)).heap.size = wr.heap.size + 1 := by simp
            refine containsFunc13_any (fun y => !pair13 y xs[k]) _ _ (xs.take k) W (by rw [List.length_take]; omega) ?_ ?_
            · refine ((HRr.out.below (w' := wr.alloc (.cells #[.string xs[k].sign, .int .i64 xs[k].level, .bool xs[k].right] 44)) ((Below.refl _ _).alloc (Nat.le_refl _) _)).below (w' := W) ?_).take k (by omega)
              rw [hsz]; exact hW
            · intro y _ V hV
              have kp : ∀ j u, (#[.string xs[k].sign, .int .i64 xs[k].level, .bool xs[k].right] : Array Value)[j]? = some u → V.cell? ⟨wr.heap.size, j, none⟩ = some u := fun j u hu => by
                have c := box_at wr #[.string xs[k].sign, .int .i64 xs[k].level, .bool xs[k].right] 44 j u hu
                have c2 : W.cell? ⟨wr.heap.size, j, none⟩ = some u := cell_keep c (by rw [hsz]; exact hW)
                exact cell_keep c2 hV
              exact opsOk1_any xs[k] y wr.heap.size V (kp 0 _ rfl) (kp 1 _ rfl) (kp 2 _ rfl)
          obtain ⟨q, hq⟩ : ∃ q, ((xs.take k).any fun y => !pair13 y xs[k]) = q := ⟨_, rfl⟩
          rw [hq] at HCt HD
          clear hq hr
          cases q with
          | true =>
            have HE : Hid (opsB xs = false) := by
              rw [Hid, HV.out, List.all_eq_false]
              exact ⟨k, List.mem_range.2 hlt, by rw [HD.out]; decide⟩
            go_wp2_with (first | (go_at_call 29; refine (HCt.out _ (by simpa using hb1)).mono ?_; rintro e w2 ⟨rfl, hb2⟩) | (go_at_call 28; refine (HRt.out _).mono ?_; rintro e w1 ⟨rfl, hb1⟩))
            go_ret
            rw [HE.out]
            have B1 := BA.out.trans (hb1.mono BA.out.size)
            exact ⟨rfl, B1.trans (hb2.mono B1.size)⟩
          | false =>
            have HN : Hid (∀ i, i < k + 1 → op13 xs i (xs.getD i default) = true) := fun i hi => by
              rcases Nat.lt_or_ge i k with h | h
              · exact HA.out i h
              · obtain rfl : i = k := by omega
                rw [HD.out]; rfl
            go_wp2_with (first | (go_at_call 29; refine (HCt.out _ (by simpa using hb1)).mono ?_; rintro e w2 ⟨rfl, hb2⟩) | (go_at_call 28; refine (HRt.out _).mono ?_; rintro e w1 ⟨rfl, hb1⟩))
            have B1 : Hid (Below w.heap.size w w1) := BA.out.trans (hb1.mono BA.out.size)
            have B2 : Hid (Below w.heap.size w w2) := B1.out.trans (hb2.mono B1.out.size)
            clear hb1 hb2
            go_roundw
            case rel => exact ⟨k + 1, by go_num, by omega, HN.out, B2.out⟩
            case measure => simp [intOf]; omega
      · obtain rfl : k = xs.length := by omega
        have HE : Hid (opsB xs = true) := by
          rw [Hid, HV.out, List.all_eq_true]
          exact fun i hi => HA.out i (List.mem_range.1 hi)
        go_wp2
        go_ret
        rw [HE.out]
        exact ⟨rfl, BW.out⟩
  · have HE : Hid (opsB xs = false) := by rw [Hid, opsB, decide_eq_false h1, Bool.and_false]
    rw [HE.out]
    by_cases h2 : xs.length < 1
    · have h4 : (xs.length : Int) < 1 := by omega
      go_enter Try.func18, Try.ntmps18
      go_wp2
      go_ret
      exact ⟨rfl, Below.refl _ _⟩
    · have h4 : ¬ (xs.length : Int) < 1 := by omega
      have h5 : (6 : Int) < (xs.length : Int) := by omega
      go_enter Try.func18, Try.ntmps18
      go_wp2
      go_ret
      exact ⟨rfl, Below.refl _ _⟩

end Go.Proofs.Ytbjkfecailnelaa
