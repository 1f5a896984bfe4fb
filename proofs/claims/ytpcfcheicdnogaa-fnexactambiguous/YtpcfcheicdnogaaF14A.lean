/- The program's Ambiguous. -/
import Derived.Test.YtpcfcheicdnogaaF14C
namespace Go.Proofs.Ytpcfcheicdnogaa
open Go.RowKit
set_option linter.unusedVariables false

def idx14 (p : Int → Bool) : Nat → List Int → Int
  | _, [] => -1
  | i, x :: xs => if p x = true then i else idx14 p (i + 1) xs
theorem idx14_drop (p : Int → Bool) (xs : List Int) (k : Nat) (h : k < xs.length) : idx14 p k (xs.drop k) = if p xs[k] = true then (k : Int) else idx14 p (k + 1) (xs.drop (k + 1)) := by
  rw [List.drop_eq_getElem_cons h, idx14]
theorem idx14_any (p : Int → Bool) : ∀ (xs : List Int) (i : Nat), decide (0 ≤ idx14 p i xs) = xs.any p
  | [], i => rfl
  | x :: xs, i => by
    rw [idx14, List.any_cons]
    split
    · rename_i h; rw [h]; simp
    · rename_i h; rw [idx14_any p xs (i + 1)]; simp [h]
def many14 (xs : List PartD) (z : Int) : Bool := decide (1 < (xs[z.toNat]?.map fun x => x.ways.length).getD 0)
theorem many14_at (xs : List PartD) (k : Nat) (h : k < xs.length) : many14 xs (k : Int) = decide (1 < xs[k].ways.length) := by
  rw [many14, Int.toNat_natCast, List.getElem?_eq_getElem h]
  rfl
theorem amb14_come {xs : List PartD} {pl : List Int} (h : Come14 xs pl) : amb14 xs = pl.any (many14 xs) := by
  cases hb : pl.any (many14 xs) with
  | true =>
    obtain ⟨z, hz, hm⟩ := List.any_eq_true.1 hb
    obtain ⟨k, rfl, hk, hp⟩ := h.2.1 z hz
    rw [many14_at xs k hk] at hm
    exact amb14_true ⟨hp, hk, of_decide_eq_true hm⟩
  | false =>
    refine amb14_false fun i hi hA => ?_
    have h1 := h.2.2 i (by omega) hA.1
    obtain ⟨_, h2⟩ := hA.2
    have h3 := List.any_eq_false.1 hb _ h1
    rw [many14_at xs i hi, decide_eq_true h2] at h3
    exact h3 rfl

set_option maxHeartbeats 1600000 in
theorem amb1_14 (v : Value) (xs : List PartD) (k B : Nat) (w : World) (hn : forestTot xs ≤ 1048576) (hk : k < xs.length) (h : RowC 5 PartE w v xs) (hB : w.cell? ⟨B, 0, none⟩ = some v) :
    Calls Try.prog 28 #[.int .i64 (k : Int), .pointer (some ⟨B, 0, none⟩)] w fun e w' => e = .returned (.bool (many14 xs (k : Int))) ∧ Below w.heap.size w w' := by
  rw [many14_at xs k hk]
  have hkl := (ways_len hn k hk).1
  obtain ⟨a, cap, rfl⟩ := h.slice
  obtain ⟨b, off, vs, rfl, _, hc, hEl⟩ := h.at hk
  obtain ⟨r0, r1, rfl, hA, hI⟩ := hEl
  have n4 : w.cell? ⟨b, off + k * 5 + 4, none⟩ = some r1 := hc 4 (by simp)
  obtain ⟨aw, cw, rfl⟩ := hI.slice
  have i4 : (k : Int) < (xs.length : Int) := by omega
  clear hc hA hI h hn
  generalize xs[k].ways.length = m at *
  by_cases hm : 1 < m
  · have i5 : (1 : Int) < (m : Int) := by omega
    rw [decide_eq_true hm]
    clear hm
    go_enter Try.func28, Try.ntmps28
    go_wp2
    go_ret
    exact ⟨rfl, Below.refl _ _⟩
  · have i5 : ¬ (1 : Int) < (m : Int) := by omega
    rw [decide_eq_false hm]
    clear hm
    go_enter Try.func28, Try.ntmps28
    go_wp2
    go_ret
    exact ⟨rfl, Below.refl _ _⟩

set_option maxHeartbeats 1600000 in
theorem indexFunc14 (p : Int → Bool) (cv v : Value) (xs : List Int) (w : World) (hn : xs.length ≤ 1048576) (h : IRow w v xs)
    (hC : ∀ x ∈ xs, ∀ W : World, Below w.heap.size w W → Calls Try.prog 28 #[.int .i64 x, cv] W fun e w' => e = .returned (.bool (p x)) ∧ Below W.heap.size W w') :
    Calls Try.prog 34 #[v, .func (.func 28) #[] #[cv]] w fun e w' => e = .returned (.int .i64 (idx14 p 0 xs)) ∧ Below w.heap.size w w' := by
  obtain ⟨a, cap, rfl⟩ := h.slice
  have HR : Hid (IRow w (.slice a xs.length cap) xs) := h
  have HC : Hid (∀ x ∈ xs, ∀ W : World, Below w.heap.size w W → Calls Try.prog 28 #[.int .i64 x, cv] W fun e w' => e = .returned (.bool (p x)) ∧ Below W.heap.size W w') := hC
  clear h hC
  go_enter Try.func34, Try.ntmps34
  go_wp2
  go_loopw [8] (fun iv wr => ∃ k : Nat, iv = .int .i64 k ∧ k ≤ xs.length ∧ idx14 p k (xs.drop k) = idx14 p 0 xs ∧ Below w.heap.size w wr) (fun iv _ => xs.length - (intOf iv).toNat)
  case atStart => exact ⟨0, rfl, Nat.zero_le _, rfl, Below.refl _ _⟩
  case round =>
    obtain ⟨k, rfl, hk, hat, hbw⟩ := hrel
    have HA : Hid (idx14 p k (xs.drop k) = idx14 p 0 xs) := hat
    have BW : Hid (Below w.heap.size w wr) := hbw
    clear hat hbw
    by_cases hlt : k < xs.length
    · have HD : Hid (_ = _) := idx14_drop p xs k hlt
      obtain ⟨b, off, rfl, n0⟩ := (HR.out.below BW.out).at hlt
      have i4 : (k : Int) < (xs.length : Int) := by omega
      have HCl : Hid (∀ W : World, Below w.heap.size w W → _) := HC.out xs[k] (List.getElem_mem hlt)
      by_cases he : p xs[k] = true
      · rw [he] at HCl
        have HV : Hid (idx14 p 0 xs = (k : Int)) := by rw [Hid, ← HA.out, HD.out, if_pos he]
        clear he
        go_wp2_with (go_at_call 28; refine (HCl.out _ BW.out).mono ?_; rintro e w1 ⟨rfl, hb1⟩)
        go_ret
        rw [HV.out]
        exact ⟨rfl, BW.out.trans (hb1.mono BW.out.size)⟩
      · have HN : Hid (idx14 p (k + 1) (xs.drop (k + 1)) = idx14 p 0 xs) := by rw [Hid, ← HA.out, HD.out, if_neg he]
        rw [Bool.not_eq_true] at he
        rw [he] at HCl
        clear he
        go_wp2_with (go_at_call 28; refine (HCl.out _ BW.out).mono ?_; rintro e w1 ⟨rfl, hb1⟩)
        go_roundw
        case rel => exact ⟨k + 1, by go_num, by omega, HN.out, BW.out.trans (hb1.mono BW.out.size)⟩
        case measure => simp [intOf]; omega
    · obtain rfl : k = xs.length := by omega
      have HV : Hid (idx14 p 0 xs = -1) := by rw [Hid, ← HA.out, List.drop_of_length_le (Nat.le_refl _)]; rfl
      go_wp2
      go_ret
      rw [HV.out]
      exact ⟨rfl, BW.out⟩

set_option maxHeartbeats 1600000 in
theorem containsFunc14 (p : Int → Bool) (cv v : Value) (xs : List Int) (w : World) (hn : xs.length ≤ 1048576) (h : IRow w v xs)
    (hC : ∀ x ∈ xs, ∀ W : World, Below w.heap.size w W → Calls Try.prog 28 #[.int .i64 x, cv] W fun e w' => e = .returned (.bool (p x)) ∧ Below W.heap.size W w') :
    Calls Try.prog 26 #[v, .func (.func 28) #[] #[cv]] w fun e w' => e = .returned (.bool (xs.any p)) ∧ Below w.heap.size w w' := by
  have HI : Hid (∀ _ : Unit, _) := fun _ => indexFunc14 p cv v xs w hn h hC
  have HA : Hid (decide (0 ≤ idx14 p 0 xs) = xs.any p) := idx14_any p xs 0
  clear h hC
  generalize idx14 p 0 xs = r at *
  by_cases h0 : 0 ≤ r
  · rw [← HA.out, decide_eq_true h0]
    go_enter Try.func26, Try.ntmps26
    go_wp2_with (go_at_call 34; refine (HI.out ()).mono ?_; rintro e w1 ⟨rfl, hb1⟩)
    go_ret
    exact ⟨rfl, hb1⟩
  · have hd : decide (0 ≤ r) = false := decide_eq_false h0
    rw [← HA.out, hd]
    clear h0
    go_enter Try.func26, Try.ntmps26
    go_wp2_with (go_at_call 34; refine (HI.out ()).mono ?_; rintro e w1 ⟨rfl, hb1⟩)
    go_ret
    exact ⟨rfl, hb1⟩

set_option maxHeartbeats 1600000 in
theorem implAmb14 (v : Value) (xs : List PartD) (w : World) (hn : forestTot xs ≤ 1048576) (h : RowC 5 PartE w v xs) :
    Calls Try.prog 14 #[.agg #[v]] w fun e w' => e = .returned (.bool (amb14 xs)) ∧ Below w.heap.size w w' := by
  have hmf : ∀ (fn : Fn) (first cap : Array Value) (w : World), (Instr.makeFunc fn first cap).run Try.prog w = .ok (.func fn first cap) w := fun _ _ _ _ => rfl
  have HN : Hid (forestTot xs ≤ 1048576) := hn
  have hnl : xs.length ≤ 1048576 := Nat.le_trans (rowTot_len partTot xs) hn
  obtain ⟨a, cap, rfl⟩ := h.slice
  have B0 : Hid (Below w.heap.size w (w.alloc (.cells #[.slice a xs.length cap] 29))) := (Below.refl _ _).alloc (Nat.le_refl _) _
  have HR : Hid (RowC 5 PartE (w.alloc (.cells #[.slice a xs.length cap] 29)) (.slice a xs.length cap) xs) := RowC.below PartE_stable h B0.out
  have hE0 : (w.alloc (.cells #[.slice a xs.length cap] 29)).cell? ⟨w.heap.size, 0, none⟩ = some (.slice a xs.length cap) := box_at _ _ _ 0 _ rfl
  have HCo : Hid (∀ _ : Unit, _) := fun _ => comeTo14 _ xs _ hn HR.out
  clear h hn
  go_enter Try.func14, Try.ntmps14
  go_wp2_with (go_at_call 27; refine (HCo.out ()).mono ?_; rintro e w1 ⟨r, rfl, hcm, hb1⟩)
  obtain ⟨pl, hoz, hcm⟩ := hcm
  have B1 : Hid (Below w.heap.size w w1) := B0.out.trans (hb1.mono B0.out.size)
  have HR1 : Hid (RowC 5 PartE w1 (.slice a xs.length cap) xs) := RowC.below PartE_stable HR.out hb1
  have hE1 := cell_keep hE0 hb1
  have HE1 : Hid (w1.cell? ⟨w.heap.size, 0, none⟩ = some (.slice a xs.length cap)) := hE1
  have HV : Hid (amb14 xs = pl.any (many14 xs)) := amb14_come hcm
  have HCf : Hid (∀ _ : Unit, _) := fun _ => containsFunc14 (many14 xs) (.pointer (some ⟨w.heap.size, 0, none⟩)) r pl w1 (Nat.le_trans hcm.1 hnl) hoz.row (fun x hx W hb => by
    obtain ⟨k, rfl, hk, _⟩ := hcm.2.1 x hx
    exact amb1_14 _ xs k w.heap.size W HN.out hk (RowC.below PartE_stable HR1.out hb) (cell_keep HE1.out hb))
  clear hoz hcm hb1 hE0 HR
  go_wp2_with (go_at_call 26; refine (HCf.out ()).mono ?_; rintro e w2 ⟨rfl, hb2⟩)
  go_ret
  rw [HV.out]
  exact ⟨rfl, B1.out.trans (hb2.mono B1.out.size)⟩

end Go.Proofs.Ytpcfcheicdnogaa
