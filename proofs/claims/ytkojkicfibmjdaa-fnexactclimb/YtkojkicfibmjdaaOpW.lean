/- The law FnSides, walked out of contracts on the program's OpsOk and Climb. -/
import Derived.Test.YtkojkicfibmjdaaOpO
import Derived.Test.YtkojkicfibmjdaaOpSg
import Derived.Test.YtkojkicfibmjdaaPlaces
namespace Go.Proofs.Ytkojkicfibmjdaa
open Go.RowKit
set_option linter.unusedVariables false

theorem ops_block {V : World} {b cap : Nat} {cs : Array Value} {T : TypeId} {fr : Nat × Nat} {xs : List OpD} (h : V.heap[b]? = some (.cells cs T fr)) (hc : ∀ i (hi : i < xs.length), cs[i * 3]? = some (.string xs[i].sign) ∧ cs[i * 3 + 1]? = some (.int .i64 xs[i].level) ∧ cs[i * 3 + 2]? = some (.bool xs[i].right)) (hcap : xs.length ≤ cap := by first | exact Nat.le_refl _ | decide) :
    Ops V (.slice (some ⟨b, 0, none⟩) xs.length cap) xs := by
  refine ⟨⟨some ⟨b, 0, none⟩, cap, rfl, (fun h => nomatch h), fun _ => ⟨b, 0, rfl, (Array.getElem?_eq_some_iff.1 h).1, fun i hi => ⟨[.string xs[i].sign, .int .i64 xs[i].level, .bool xs[i].right], rfl, fun j hj => ?_, rfl⟩⟩⟩, fun _ _ _ e => by cases e; exact hcap⟩
  obtain ⟨c0, c1, c2⟩ := hc i hi
  match j, hj with
  | 0, _ => exact run_cell h (by rw [Nat.zero_add]; exact c0)
  | 1, _ => exact run_cell h (by rw [Nat.zero_add]; exact c1)
  | 2, _ => exact run_cell h (by rw [Nat.zero_add]; exact c2)
def plusB : ByteArray := ⟨#[43]⟩
def one13 (l : Int) (r : Bool) : List OpD := [⟨⟨#[43]⟩, l, r⟩]
def two13L : List OpD := [⟨⟨#[43]⟩, 2, false⟩, ⟨⟨#[42]⟩, 5, false⟩]
def tA : ByteArray := ⟨#[49, 43, 50, 43, 51, 43, 52]⟩
def tB : ByteArray := ⟨#[49, 43, 50, 42, 51, 43, 52, 42, 53]⟩
def wantA (r : Bool) : ByteArray := if r = true then ⟨#[40, 49, 43, 40, 50, 43, 40, 51, 43, 52, 41, 41, 41]⟩ else ⟨#[40, 40, 40, 49, 43, 50, 41, 43, 51, 41, 43, 52, 41]⟩
def wantB : ByteArray := ⟨#[40, 40, 49, 43, 40, 50, 42, 51, 41, 41, 43, 40, 52, 42, 53, 41, 41]⟩
theorem sides_one (m : Int) (h0 : 0 ≤ m) (h1 : m < 8) (r : Bool) : climbB (one13 (1 + m) r) tA = some (wantA r) ∧ opsB (one13 (1 + m) r) = true := by
  obtain rfl | rfl | rfl | rfl | rfl | rfl | rfl | rfl : m = 0 ∨ m = 1 ∨ m = 2 ∨ m = 3 ∨ m = 4 ∨ m = 5 ∨ m = 6 ∨ m = 7 := by omega
  all_goals
    cases r
    · exact ⟨by kernel_rfl, by kernel_rfl⟩
    · exact ⟨by kernel_rfl, by kernel_rfl⟩
theorem sides_two : climbB two13L tB = some wantB ∧ opsB two13L = true := ⟨by kernel_rfl, by kernel_rfl⟩
theorem bigO_any (a : Option Addr) (n cap : Nat) (w : World) :
    Calls Try.prog 6 #[.slice a n cap] w fun e w' => e = .returned (.bool (decide (1048576 < (n : Int)))) ∧ w' = w := by
  go_enter Try.func6, Try.ntmps6
  go_wp2
  go_ret
  exact ⟨rfl, rfl⟩

set_option maxHeartbeats 6400000 in
set_option maxRecDepth 100000 in
theorem fnSides_of (a : Option Addr) (n cap : Nat) (w : World)
    (hC : ∀ (v : Value) (xs : List OpD) (text : ByteArray) (W : World), Below w.heap.size w W → xs.length ≤ 1048576 → text.size ≤ 1048576 → Ops W v xs → (∀ x ∈ xs, x.sign.size ≤ maxLen) → Calls Try.prog 8 #[v, .string text] W fun e w' => e = .returned (.tuple #[.string (climbS xs text), .bool (climbB xs text).isSome]) ∧ Below W.heap.size W w')
    (hO : ∀ (v : Value) (xs : List OpD) (W : World), Below w.heap.size w W → xs.length ≤ 1048576 → Ops W v xs → (∀ x ∈ xs, x.sign.size ≤ maxLen) → Calls Try.prog 9 #[v] W fun e w' => e = .returned (.bool (opsB xs)) ∧ Below W.heap.size W w')
    (hcode : CodeRow w (.slice a n cap) n) :
    Calls Try.prog 3 #[.slice a n cap] w fun e w' => e = .returned (.bool true) ∧ Below w.heap.size w w' := by
  have HC : Hid (CodeRow w (.slice a n cap) n) := hcode
  clear hcode
  by_cases hn : n ≤ 1048576
  · have hd : decide (1048576 < (n : Int)) = false := by simp; omega
    have HCl : Hid (∀ (v : Value) (xs : List OpD) (text s : ByteArray) (W : World), Below w.heap.size w W → xs.length ≤ 1048576 → text.size ≤ 1048576 → Ops W v xs → climbB xs text = some s → Calls Try.prog 8 #[v, .string text] W fun e w' => e = .returned (.tuple #[.string s, .bool true]) ∧ Below W.heap.size W w') := fun v xs text s W hb hl ht h he => by
      have := hC v xs text W hb hl ht h (signs_of (climb_ops he))
      rw [climbS, he] at this
      exact this
    have HOk : Hid (∀ (v : Value) (xs : List OpD) (W : World), Below w.heap.size w W → xs.length ≤ 1048576 → Ops W v xs → opsB xs = true → Calls Try.prog 9 #[v] W fun e w' => e = .returned (.bool true) ∧ Below W.heap.size W w') := fun v xs W hb hl h he => by
      have := hO v xs W hb hl h (signs_of he)
      rwa [he] at this
    clear hC hO
    go_enter Try.func3, Try.ntmps3
    go_wp2_with fail
    refine (bigO_any a n cap _).mono ?_
    rintro e wq ⟨rfl, hw⟩
    rw [hw, hd]
    clear hw wq
    go_wp2_with fail
    refine (drawPlaces_any w _ n _ (by omega) HC.out (Below.refl _ _)).mono ?_
    rintro e w1 ⟨p, rfl, hp1, hb1⟩
    obtain ⟨gp, capp, fp, rfl, hgp, hcp, hfp⟩ := Places.at hp1
    have B1 : Hid (Below w.heap.size w w1) := hb1
    obtain ⟨x0, x1, xc⟩ := hfp 0 (by omega)
    obtain ⟨y0, y1, yc⟩ := hfp 1 (by omega)
    have em0 : (fp 0).tmod 2 = fp 0 % 2 := Int.tmod_eq_emod_of_nonneg x0
    have em1 : (fp 1).tmod 8 = fp 1 % 8 := Int.tmod_eq_emod_of_nonneg y0
    have m0 : 0 ≤ (fp 1).tmod 8 := by omega
    have m1 : (fp 1).tmod 8 < 8 := by omega
    have r0 : (fp 0).tmod 2 = 0 ∨ (fp 0).tmod 2 = 1 := by omega
    clear hfp hb1 em0 em1 hp1 hgp
    generalize hm : (fp 1).tmod 8 = m at *
    generalize hk : (fp 0).tmod 2 = k at *
    have HS1 : Hid (∀ r, climbB (one13 (1 + m) r) tA = some (wantA r) ∧ opsB (one13 (1 + m) r) = true) := fun r => sides_one m m0 m1 r
    have HS2 : Hid (climbB two13L tB = some wantB ∧ opsB two13L = true) := sides_two
    have wm : IntKind.i64.wrap (1 + m) = 1 + m := by rw [IntKind.wrap_i64]; omega
    have key : ∀ (r : Bool), Below w.heap.size w (w1.alloc (.cells #[.string ⟨#[43]⟩, .int .i64 (1 + m), .bool r] 27)) ∧ Ops (w1.alloc (.cells #[.string ⟨#[43]⟩, .int .i64 (1 + m), .bool r] 27)) (.slice (some ⟨w1.heap.size, 0, none⟩) 1 1) (one13 (1 + m) r) := fun r => by
      refine ⟨B1.out.alloc B1.out.size _, ops_block (xs := one13 (1 + m) r) (heap_alloc_new w1 (.cells #[.string ⟨#[43]⟩, .int .i64 (1 + m), .bool r] 27)) (fun i hi => ?_)⟩
      have hi : i < 1 := hi
      obtain rfl : i = 0 := by omega
      exact ⟨rfl, rfl, rfl⟩
    have Hkey : Hid (∀ (r : Bool), Below w.heap.size w (w1.alloc (.cells #[.string ⟨#[43]⟩, .int .i64 (1 + m), .bool r] 27)) ∧ Ops (w1.alloc (.cells #[.string ⟨#[43]⟩, .int .i64 (1 + m), .bool r] 27)) (.slice (some ⟨w1.heap.size, 0, none⟩) 1 1) (one13 (1 + m) r)) := key
    have HLit : Hid (∀ V : World, Ops (V.alloc (.cells #[.string ⟨#[43]⟩, .int .i64 2, .bool false, .string ⟨#[42]⟩, .int .i64 5, .bool false] 27)) (.slice (some ⟨V.heap.size, 0, none⟩) 2 2) two13L) := fun V => ops_block (xs := two13L) (heap_alloc_new V (.cells #[.string ⟨#[43]⟩, .int .i64 2, .bool false, .string ⟨#[42]⟩, .int .i64 5, .bool false] 27)) (fun i hi => by
      have hi : i < 2 := hi
      have h2 : i = 0 ∨ i = 1 := by omega
      rcases h2 with rfl | rfl
      · exact ⟨rfl, rfl, rfl⟩
      · exact ⟨rfl, rfl, rfl⟩)
    clear key
    rcases r0 with rfl | rfl
    · have qa := beq_yes (rfl : (⟨#[40, 40, 40, 49, 43, 50, 41, 43, 51, 41, 43, 52, 41]⟩ : ByteArray) = ⟨#[40, 40, 40, 49, 43, 50, 41, 43, 51, 41, 43, 52, 41]⟩)
      have qb := beq_yes (rfl : (⟨#[40, 40, 49, 43, 40, 50, 42, 51, 41, 41, 43, 40, 52, 42, 53, 41, 41]⟩ : ByteArray) = ⟨#[40, 40, 49, 43, 40, 50, 42, 51, 41, 41, 43, 40, 52, 42, 53, 41, 41]⟩)
      go_wp2_with fail
      refine (HCl.out _ (one13 (1 + m) false) ⟨#[49, 43, 50, 43, 51, 43, 52]⟩ ⟨#[40, 40, 40, 49, 43, 50, 41, 43, 51, 41, 43, 52, 41]⟩ _ (Hkey.out false).1 (by simp [one13]) (by decide) (Hkey.out false).2 (HS1.out false).1).mono ?_
      rintro e w2 ⟨rfl, hb2⟩
      have B2 : Hid (Below w.heap.size w w2) := (Hkey.out false).1.trans (hb2.mono (Hkey.out false).1.size)
      have O2 : Hid (Ops w2 (.slice (some ⟨w1.heap.size, 0, none⟩) 1 1) (one13 (1 + m) false)) := (Hkey.out false).2.below hb2
      clear hb2
      have ba : Below w2.heap.size w2 (w2.alloc (.cells #[.string ⟨#[43]⟩, .int .i64 2, .bool false, .string ⟨#[42]⟩, .int .i64 5, .bool false] 27)) := (Below.refl _ _).alloc (Nat.le_refl _) _
      have B3 : Hid (Below w.heap.size w (w2.alloc (.cells #[.string ⟨#[43]⟩, .int .i64 2, .bool false, .string ⟨#[42]⟩, .int .i64 5, .bool false] 27))) := B2.out.trans (ba.mono B2.out.size)
      have O3 : Hid (Ops (w2.alloc (.cells #[.string ⟨#[43]⟩, .int .i64 2, .bool false, .string ⟨#[42]⟩, .int .i64 5, .bool false] 27)) (.slice (some ⟨w1.heap.size, 0, none⟩) 1 1) (one13 (1 + m) false)) := O2.out.below ba
      clear ba
      go_wp2_with fail
      refine (HCl.out _ two13L ⟨#[49, 43, 50, 42, 51, 43, 52, 42, 53]⟩ ⟨#[40, 40, 49, 43, 40, 50, 42, 51, 41, 41, 43, 40, 52, 42, 53, 41, 41]⟩ _ B3.out (by decide) (by decide) (HLit.out w2) HS2.out.1).mono ?_
      rintro e w4 ⟨rfl, hb4⟩
      have B4 : Hid (Below w.heap.size w w4) := B3.out.trans (hb4.mono B3.out.size)
      have O4 : Hid (Ops w4 (.slice (some ⟨w1.heap.size, 0, none⟩) 1 1) (one13 (1 + m) false)) := O3.out.below hb4
      have L4 : Hid (Ops w4 (.slice (some ⟨w2.heap.size, 0, none⟩) 2 2) two13L) := (HLit.out w2).below hb4
      clear hb4
      go_wp2_with fail
      refine (HOk.out _ (one13 (1 + m) false) _ B4.out (by simp [one13]) O4.out (HS1.out false).2).mono ?_
      rintro e w5 ⟨rfl, hb5⟩
      have B5 : Hid (Below w.heap.size w w5) := B4.out.trans (hb5.mono B4.out.size)
      have L5 : Hid (Ops w5 (.slice (some ⟨w2.heap.size, 0, none⟩) 2 2) two13L) := L4.out.below hb5
      clear hb5
      go_wp2_with fail
      refine (HOk.out _ two13L _ B5.out (by decide) L5.out HS2.out.2).mono ?_
      rintro e w6 ⟨rfl, hb6⟩
      have B6 : Hid (Below w.heap.size w w6) := B5.out.trans (hb6.mono B5.out.size)
      clear hb6
      go_wp2
      go_ret
      exact ⟨rfl, B6.out⟩
    · have qa := beq_yes (rfl : (⟨#[40, 49, 43, 40, 50, 43, 40, 51, 43, 52, 41, 41, 41]⟩ : ByteArray) = ⟨#[40, 49, 43, 40, 50, 43, 40, 51, 43, 52, 41, 41, 41]⟩)
      have qb := beq_yes (rfl : (⟨#[40, 40, 49, 43, 40, 50, 42, 51, 41, 41, 43, 40, 52, 42, 53, 41, 41]⟩ : ByteArray) = ⟨#[40, 40, 49, 43, 40, 50, 42, 51, 41, 41, 43, 40, 52, 42, 53, 41, 41]⟩)
      go_wp2_with fail
      refine (HCl.out _ (one13 (1 + m) true) ⟨#[49, 43, 50, 43, 51, 43, 52]⟩ ⟨#[40, 49, 43, 40, 50, 43, 40, 51, 43, 52, 41, 41, 41]⟩ _ (Hkey.out true).1 (by simp [one13]) (by decide) (Hkey.out true).2 (HS1.out true).1).mono ?_
      rintro e w2 ⟨rfl, hb2⟩
      have B2 : Hid (Below w.heap.size w w2) := (Hkey.out true).1.trans (hb2.mono (Hkey.out true).1.size)
      have O2 : Hid (Ops w2 (.slice (some ⟨w1.heap.size, 0, none⟩) 1 1) (one13 (1 + m) true)) := (Hkey.out true).2.below hb2
      clear hb2
      have ba : Below w2.heap.size w2 (w2.alloc (.cells #[.string ⟨#[43]⟩, .int .i64 2, .bool false, .string ⟨#[42]⟩, .int .i64 5, .bool false] 27)) := (Below.refl _ _).alloc (Nat.le_refl _) _
      have B3 : Hid (Below w.heap.size w (w2.alloc (.cells #[.string ⟨#[43]⟩, .int .i64 2, .bool false, .string ⟨#[42]⟩, .int .i64 5, .bool false] 27))) := B2.out.trans (ba.mono B2.out.size)
      have O3 : Hid (Ops (w2.alloc (.cells #[.string ⟨#[43]⟩, .int .i64 2, .bool false, .string ⟨#[42]⟩, .int .i64 5, .bool false] 27)) (.slice (some ⟨w1.heap.size, 0, none⟩) 1 1) (one13 (1 + m) true)) := O2.out.below ba
      clear ba
      go_wp2_with fail
      refine (HCl.out _ two13L ⟨#[49, 43, 50, 42, 51, 43, 52, 42, 53]⟩ ⟨#[40, 40, 49, 43, 40, 50, 42, 51, 41, 41, 43, 40, 52, 42, 53, 41, 41]⟩ _ B3.out (by decide) (by decide) (HLit.out w2) HS2.out.1).mono ?_
      rintro e w4 ⟨rfl, hb4⟩
      have B4 : Hid (Below w.heap.size w w4) := B3.out.trans (hb4.mono B3.out.size)
      have O4 : Hid (Ops w4 (.slice (some ⟨w1.heap.size, 0, none⟩) 1 1) (one13 (1 + m) true)) := O3.out.below hb4
      have L4 : Hid (Ops w4 (.slice (some ⟨w2.heap.size, 0, none⟩) 2 2) two13L) := (HLit.out w2).below hb4
      clear hb4
      go_wp2_with fail
      refine (HOk.out _ (one13 (1 + m) true) _ B4.out (by simp [one13]) O4.out (HS1.out true).2).mono ?_
      rintro e w5 ⟨rfl, hb5⟩
      have B5 : Hid (Below w.heap.size w w5) := B4.out.trans (hb5.mono B4.out.size)
      have L5 : Hid (Ops w5 (.slice (some ⟨w2.heap.size, 0, none⟩) 2 2) two13L) := L4.out.below hb5
      clear hb5
      go_wp2_with fail
      refine (HOk.out _ two13L _ B5.out (by decide) L5.out HS2.out.2).mono ?_
      rintro e w6 ⟨rfl, hb6⟩
      have B6 : Hid (Below w.heap.size w w6) := B5.out.trans (hb6.mono B5.out.size)
      clear hb6
      go_wp2
      go_ret
      exact ⟨rfl, B6.out⟩
  · have hd : decide (1048576 < (n : Int)) = true := by simp; omega
    go_enter Try.func3, Try.ntmps3
    go_wp2_with fail
    refine (bigO_any a n cap _).mono ?_
    rintro e wq ⟨rfl, hw⟩
    rw [hw, hd]
    clear hw wq
    go_wp2
    go_ret
    exact ⟨rfl, Below.refl _ _⟩

end Go.Proofs.Ytkojkicfibmjdaa
