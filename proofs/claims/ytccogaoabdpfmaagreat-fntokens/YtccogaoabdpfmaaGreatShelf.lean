/- The program's kinds of runes, and how many bytes are of a kind (printed by mk/tkb.py). -/
/- Contracts of the library's functions that this program calls, each by one application of a theorem of the library. -/
import Derived.Test.YtccogaoabdpfmaaGreatTkA
import Derived.Test.YtccogaoabdpfmaaGreatProg
import Derived.WalkSpells
import Derived.Shelf.Small.Utf8
import Derived.Shelf.Small.Strs
import Derived.Shelf.LaysM
import Derived.Shelf.Strconv.Clone
import Derived.Shelf.Strings.Search1
import Derived.Shelf.Strings.Prefix
import Derived.Shelf.Strings.Runes
namespace Go.Proofs.YtccogaoabdpfmaaGreat
open Go.RowKit
set_option maxHeartbeats 1600000
set_option linter.unusedVariables false
theorem iterPos_of {w : World} {k : Nat} {s : ByteArray} {p : Nat} (h : w.heap[k]? = some (.stringIter s p)) : w.iterPos k = p := by simp [World.iterPos, h]
theorem letR_any (b : Nat) (w : World) : Calls Tryz.prog 20 #[.int .i32 b] w fun e w' => e = .returned (.bool (letT b)) ∧ w' = w := by
 by_cases h1 : 97 ≤ b
 ·by_cases h2 : b ≤ 122
  ·have HV : Hid (letT b = true) := by simp [Hid, letT, h1, h2]
   have d2 : decide ((b : Int) ≤ 122) = true := by rw [decide_eq_true]; omega
   go_enter Tryz.func20, Tryz.ntmps20
   go_wp2
   go_ret
   rw [HV.out]
   exact ⟨rfl, rfl⟩
  ·have HV : Hid (letT b = false) := by simp [Hid, letT]; omega
   have d2 : decide ((b : Int) ≤ 122) = false := by rw [decide_eq_false]; omega
   have d3 : decide ((65 : Int) ≤ (b : Int)) = true := by rw [decide_eq_true]; omega
   have d4 : decide ((b : Int) ≤ 90) = false := by rw [decide_eq_false]; omega
   go_enter Tryz.func20, Tryz.ntmps20
   go_wp2
   go_ret
   rw [HV.out]
   exact ⟨rfl, rfl⟩
 ·have d1 : decide ((97 : Int) ≤ (b : Int)) = false := by rw [decide_eq_false]; omega
  by_cases h3 : 65 ≤ b
  ·have d3 : decide ((65 : Int) ≤ (b : Int)) = true := by rw [decide_eq_true]; omega
   by_cases h4 : b ≤ 90
   ·have HV : Hid (letT b = true) := by simp [Hid, letT]; omega
    have d4 : decide ((b : Int) ≤ 90) = true := by rw [decide_eq_true]; omega
    go_enter Tryz.func20, Tryz.ntmps20
    go_wp2
    go_ret
    rw [HV.out]
    exact ⟨rfl, rfl⟩
   ·have HV : Hid (letT b = false) := by simp [Hid, letT]; omega
    have d4 : decide ((b : Int) ≤ 90) = false := by rw [decide_eq_false]; omega
    go_enter Tryz.func20, Tryz.ntmps20
    go_wp2
    go_ret
    rw [HV.out]
    exact ⟨rfl, rfl⟩
  ·have HV : Hid (letT b = false) := by simp [Hid, letT]; omega
   have d3 : decide ((65 : Int) ≤ (b : Int)) = false := by rw [decide_eq_false]; omega
   go_enter Tryz.func20, Tryz.ntmps20
   go_wp2
   go_ret
   rw [HV.out]
   exact ⟨rfl, rfl⟩
theorem figR_any (b : Nat) (w : World) : Calls Tryz.prog 22 #[.int .i32 b] w fun e w' => e = .returned (.bool (figT b)) ∧ w' = w := by
 by_cases h1 : 48 ≤ b
 ·have d1 : decide ((48 : Int) ≤ (b : Int)) = true := by rw [decide_eq_true]; omega
  by_cases h2 : b ≤ 57
  ·have HV : Hid (figT b = true) := by simp [Hid, figT, h1, h2]
   have d2 : decide ((b : Int) ≤ 57) = true := by rw [decide_eq_true]; omega
   go_enter Tryz.func22, Tryz.ntmps22
   go_wp2
   go_ret
   rw [HV.out]
   exact ⟨rfl, rfl⟩
  ·have HV : Hid (figT b = false) := by simp [Hid, figT]; omega
   have d2 : decide ((b : Int) ≤ 57) = false := by rw [decide_eq_false]; omega
   go_enter Tryz.func22, Tryz.ntmps22
   go_wp2
   go_ret
   rw [HV.out]
   exact ⟨rfl, rfl⟩
 ·have HV : Hid (figT b = false) := by simp [Hid, figT]; omega
  have d1 : decide ((48 : Int) ≤ (b : Int)) = false := by rw [decide_eq_false]; omega
  go_enter Tryz.func22, Tryz.ntmps22
  go_wp2
  go_ret
  rw [HV.out]
  exact ⟨rfl, rfl⟩
theorem wordR_any (b : Nat) (z : Bool) (hz : wordR b = z) (w : World) : Calls Tryz.prog 46 #[.int .i32 b] w fun e w' => e = .returned (.bool z) ∧ w' = w := by
 have HL : Hid (∀ W, _) := fun W => letR_any b W
 have HF : Hid (∀ W, _) := fun W => figR_any b W
 unfold wordR at hz
 generalize letT b = x at *
 generalize figT b = y at *
 cases x with
 | true =>
  obtain rfl : z = true := by rw [← hz]; rfl
  clear hz
  go_enter Tryz.func46, Tryz.ntmps46
  go_wp2_with (go_at_call 20; refine (HL.out _).mono ?_; rintro e wq ⟨rfl, hw⟩; rw [hw]; clear hw)
  go_ret
  exact ⟨rfl, rfl⟩
 | false =>
  obtain rfl : z = y := by rw [← hz]; rfl
  clear hz
  go_enter Tryz.func46, Tryz.ntmps46
  go_wp2_with (first | (go_at_call 20; refine (HL.out _).mono ?_; rintro e wq ⟨rfl, hw⟩; rw [hw]; clear hw) | (go_at_call 22; refine (HF.out _).mono ?_; rintro e wq ⟨rfl, hw⟩; rw [hw]; clear hw))
  go_ret
  exact ⟨rfl, rfl⟩
theorem figR_is (b : Nat) (z : Bool) (hz : figT b = z) (w : World) : Calls Tryz.prog 22 #[.int .i32 b] w fun e w' => e = .returned (.bool z) ∧ w' = w := by
 rw [← hz]
 exact figR_any b w
theorem notR_is (m b : Nat) (z : Bool) (hz : notR m b = z) (B : Nat) (w : World) (hB : w.cell? ⟨B, 0, none⟩ = some (.int .i32 m)) : Calls Tryz.prog 45 #[.int .i32 b, .pointer (some ⟨B, 0, none⟩)] w fun e w' => e = .returned (.bool z) ∧ w' = w := by
 cases z with
 | true =>
  have hq : ((b : Int) != (m : Int)) = true := by simp [notR] at hz ⊢; omega
  clear hz
  go_enter Tryz.func45, Tryz.ntmps45
  go_wp2
  go_ret
  exact ⟨rfl, rfl⟩
 | false =>
  have hq : ((b : Int) != (m : Int)) = false := by simp [notR] at hz ⊢; omega
  clear hz
  go_enter Tryz.func45, Tryz.ntmps45
  go_wp2
  go_ret
  exact ⟨rfl, rfl⟩
theorem areWord (s : ByteArray) (w : World) (hs : s.size ≤ 1048576) :
  Calls Tryz.prog 44 #[.func (.func 46) #[] #[], .string s] w fun e w' => e = .returned (.int .i64 (spanN wordT s.data.toList)) ∧ Below w.heap.size w w' := by
 go_enter Tryz.func44, Tryz.ntmps44
 go_wp2
 go_loopw [4] (fun _ wr => ∃ pos : Nat, wr.heap[w.heap.size]? = some (.stringIter s pos) ∧ Below w.heap.size w wr ∧ pos ≤ s.size ∧ ∀ m (hm : m < s.size), m < pos → wordT s[m] = true) (fun _ wr => s.size - wr.iterPos w.heap.size)
 case atStart => exact ⟨0, World.iter_heap w s 0, (Below.refl _ _).alloc (Nat.le_refl _) _, Nat.zero_le _, fun m hm h => by omega⟩
 case round =>
  obtain ⟨pos, hit, hbw, hpos, hto⟩ := hrel
  have hpos0 := iterPos_of hit
  have HTo : Hid (∀ m (hm : m < s.size), m < pos → wordT s[m] = true) := hto
  clear hto
  by_cases hp : pos < s.size
  ·have hnx : ∀ ty, (Instr.next (.pointer (some ⟨w.heap.size, 0, none⟩)) true ty).run Tryz.prog wr = _ := fun ty => Lib.run_next_any_at wr w.heap.size s pos ty hit hp
   have hst := kind_step kind_word s pos hp
   have HIt : Hid ((wr.iterAt w.heap.size s (pos + (Utf8.decode s pos).2)).heap[w.heap.size]? = some (.stringIter s (pos + (Utf8.decode s pos).2))) := Lib.iterAt_heap wr w.heap.size s pos (pos + (Utf8.decode s pos).2) hit
   have HB : Hid (Below w.heap.size w (wr.iterAt w.heap.size s (pos + (Utf8.decode s pos).2))) := Lib.below_iterAt hbw (k := w.heap.size) (Nat.le_refl _) s (pos + (Utf8.decode s pos).2)
   have HH : Hid (∀ z, wordR (Utf8.decode s pos).1 = z → ∀ W, Below w.heap.size w W → _) := fun z hz W hW => wordR_any (Utf8.decode s pos).1 z hz W
   have HQ : Hid (_ ∨ _) := hst.2.2
   obtain ⟨h1, h2, _⟩ := hst
   generalize wr.iterAt w.heap.size s (pos + (Utf8.decode s pos).2) = W1 at *
   generalize (Utf8.decode s pos).1 = r at *
   generalize (Utf8.decode s pos).2 = n at *
   clear hit hbw
   rcases HQ.out with hq | hq
   ·have HC : Hid (∀ _ : Unit, _) := fun _ => HH.out true hq.1 W1 HB.out
    have HN : Hid (∀ m (hm : m < s.size), m < pos + n → wordT s[m] = true) := fun m hm h => by
     rcases Nat.lt_or_ge m pos with h3 | h3
     ·exact HTo.out m hm h3
     ·exact hq.2 m hm h3 h
    clear HQ hq HH
    go_wp2_with (go_at_call 46; refine (HC.out ()).mono ?_; rintro e wq ⟨rfl, hw⟩; rw [hw]; clear hw)
    go_roundw
    case rel => exact ⟨pos + n, HIt.out, HB.out, h2, HN.out⟩
    case measure => rw [iterPos_of HIt.out, hpos0]; omega
   ·have HC : Hid (∀ _ : Unit, _) := fun _ => HH.out false hq.1 W1 HB.out
    have HV : Hid (spanN wordT s.data.toList = pos) := span_whole (by omega) HTo.out (fun _ => hq.2)
    clear HQ hq HH
    go_wp2_with (go_at_call 46; refine (HC.out ()).mono ?_; rintro e wq ⟨rfl, hw⟩; rw [hw]; clear hw)
    go_ret
    rw [HV.out]
    exact ⟨rfl, HB.out⟩
  ·have hnx : ∀ ty, (Instr.next (.pointer (some ⟨w.heap.size, 0, none⟩)) true ty).run Tryz.prog wr = _ := fun ty => Lib.run_next_end_at wr w.heap.size s pos ty hit hp
   obtain rfl : pos = s.size := by omega
   have HV : Hid (spanN wordT s.data.toList = s.size) := span_whole (Nat.le_refl _) HTo.out (fun h => absurd h (Nat.lt_irrefl _))
   go_wp2
   go_ret
   rw [HV.out]
   exact ⟨rfl, hbw⟩
theorem areFig (s : ByteArray) (w : World) (hs : s.size ≤ 1048576) :
  Calls Tryz.prog 44 #[.func (.func 22) #[] #[], .string s] w fun e w' => e = .returned (.int .i64 (spanN figU s.data.toList)) ∧ Below w.heap.size w w' := by
 go_enter Tryz.func44, Tryz.ntmps44
 go_wp2
 go_loopw [4] (fun _ wr => ∃ pos : Nat, wr.heap[w.heap.size]? = some (.stringIter s pos) ∧ Below w.heap.size w wr ∧ pos ≤ s.size ∧ ∀ m (hm : m < s.size), m < pos → figU s[m] = true) (fun _ wr => s.size - wr.iterPos w.heap.size)
 case atStart => exact ⟨0, World.iter_heap w s 0, (Below.refl _ _).alloc (Nat.le_refl _) _, Nat.zero_le _, fun m hm h => by omega⟩
 case round =>
  obtain ⟨pos, hit, hbw, hpos, hto⟩ := hrel
  have hpos0 := iterPos_of hit
  have HTo : Hid (∀ m (hm : m < s.size), m < pos → figU s[m] = true) := hto
  clear hto
  by_cases hp : pos < s.size
  ·have hnx : ∀ ty, (Instr.next (.pointer (some ⟨w.heap.size, 0, none⟩)) true ty).run Tryz.prog wr = _ := fun ty => Lib.run_next_any_at wr w.heap.size s pos ty hit hp
   have hst := kind_step kind_fig s pos hp
   have HIt : Hid ((wr.iterAt w.heap.size s (pos + (Utf8.decode s pos).2)).heap[w.heap.size]? = some (.stringIter s (pos + (Utf8.decode s pos).2))) := Lib.iterAt_heap wr w.heap.size s pos (pos + (Utf8.decode s pos).2) hit
   have HB : Hid (Below w.heap.size w (wr.iterAt w.heap.size s (pos + (Utf8.decode s pos).2))) := Lib.below_iterAt hbw (k := w.heap.size) (Nat.le_refl _) s (pos + (Utf8.decode s pos).2)
   have HH : Hid (∀ z, figT (Utf8.decode s pos).1 = z → ∀ W, Below w.heap.size w W → _) := fun z hz W hW => figR_is (Utf8.decode s pos).1 z hz W
   have HQ : Hid (_ ∨ _) := hst.2.2
   obtain ⟨h1, h2, _⟩ := hst
   generalize wr.iterAt w.heap.size s (pos + (Utf8.decode s pos).2) = W1 at *
   generalize (Utf8.decode s pos).1 = r at *
   generalize (Utf8.decode s pos).2 = n at *
   clear hit hbw
   rcases HQ.out with hq | hq
   ·have HC : Hid (∀ _ : Unit, _) := fun _ => HH.out true hq.1 W1 HB.out
    have HN : Hid (∀ m (hm : m < s.size), m < pos + n → figU s[m] = true) := fun m hm h => by
     rcases Nat.lt_or_ge m pos with h3 | h3
     ·exact HTo.out m hm h3
     ·exact hq.2 m hm h3 h
    clear HQ hq HH
    go_wp2_with (go_at_call 22; refine (HC.out ()).mono ?_; rintro e wq ⟨rfl, hw⟩; rw [hw]; clear hw)
    go_roundw
    case rel => exact ⟨pos + n, HIt.out, HB.out, h2, HN.out⟩
    case measure => rw [iterPos_of HIt.out, hpos0]; omega
   ·have HC : Hid (∀ _ : Unit, _) := fun _ => HH.out false hq.1 W1 HB.out
    have HV : Hid (spanN figU s.data.toList = pos) := span_whole (by omega) HTo.out (fun _ => hq.2)
    clear HQ hq HH
    go_wp2_with (go_at_call 22; refine (HC.out ()).mono ?_; rintro e wq ⟨rfl, hw⟩; rw [hw]; clear hw)
    go_ret
    rw [HV.out]
    exact ⟨rfl, HB.out⟩
  ·have hnx : ∀ ty, (Instr.next (.pointer (some ⟨w.heap.size, 0, none⟩)) true ty).run Tryz.prog wr = _ := fun ty => Lib.run_next_end_at wr w.heap.size s pos ty hit hp
   obtain rfl : pos = s.size := by omega
   have HV : Hid (spanN figU s.data.toList = s.size) := span_whole (Nat.le_refl _) HTo.out (fun h => absurd h (Nat.lt_irrefl _))
   go_wp2
   go_ret
   rw [HV.out]
   exact ⟨rfl, hbw⟩
theorem areNot (mk : Nat) (hm128 : mk < 128) (B : Nat) (s : ByteArray) (w : World) (hs : s.size ≤ 1048576) (hB : w.cell? ⟨B, 0, none⟩ = some (.int .i32 mk)) :
  Calls Tryz.prog 44 #[.func (.func 45) #[] #[.pointer (some ⟨B, 0, none⟩)], .string s] w fun e w' => e = .returned (.int .i64 (spanN (notB mk) s.data.toList)) ∧ Below w.heap.size w w' := by
 have HC0 : Hid (w.cell? ⟨B, 0, none⟩ = some (.int .i32 mk)) := hB
 clear hB
 go_enter Tryz.func44, Tryz.ntmps44
 go_wp2
 go_loopw [4] (fun _ wr => ∃ pos : Nat, wr.heap[w.heap.size]? = some (.stringIter s pos) ∧ Below w.heap.size w wr ∧ pos ≤ s.size ∧ ∀ m (hm : m < s.size), m < pos → (notB mk) s[m] = true) (fun _ wr => s.size - wr.iterPos w.heap.size)
 case atStart => exact ⟨0, World.iter_heap w s 0, (Below.refl _ _).alloc (Nat.le_refl _) _, Nat.zero_le _, fun m hm h => by omega⟩
 case round =>
  obtain ⟨pos, hit, hbw, hpos, hto⟩ := hrel
  have hpos0 := iterPos_of hit
  have HTo : Hid (∀ m (hm : m < s.size), m < pos → (notB mk) s[m] = true) := hto
  clear hto
  by_cases hp : pos < s.size
  ·have hnx : ∀ ty, (Instr.next (.pointer (some ⟨w.heap.size, 0, none⟩)) true ty).run Tryz.prog wr = _ := fun ty => Lib.run_next_any_at wr w.heap.size s pos ty hit hp
   have hst := kind_step (kind_not hm128) s pos hp
   have HIt : Hid ((wr.iterAt w.heap.size s (pos + (Utf8.decode s pos).2)).heap[w.heap.size]? = some (.stringIter s (pos + (Utf8.decode s pos).2))) := Lib.iterAt_heap wr w.heap.size s pos (pos + (Utf8.decode s pos).2) hit
   have HB : Hid (Below w.heap.size w (wr.iterAt w.heap.size s (pos + (Utf8.decode s pos).2))) := Lib.below_iterAt hbw (k := w.heap.size) (Nat.le_refl _) s (pos + (Utf8.decode s pos).2)
   have HH : Hid (∀ z, notR mk (Utf8.decode s pos).1 = z → ∀ W, Below w.heap.size w W → _) := fun z hz W hW => notR_is mk (Utf8.decode s pos).1 z hz B W (cell_keep HC0.out hW)
   have HQ : Hid (_ ∨ _) := hst.2.2
   obtain ⟨h1, h2, _⟩ := hst
   generalize wr.iterAt w.heap.size s (pos + (Utf8.decode s pos).2) = W1 at *
   generalize (Utf8.decode s pos).1 = r at *
   generalize (Utf8.decode s pos).2 = n at *
   clear hit hbw
   rcases HQ.out with hq | hq
   ·have HC : Hid (∀ _ : Unit, _) := fun _ => HH.out true hq.1 W1 HB.out
    have HN : Hid (∀ m (hm : m < s.size), m < pos + n → (notB mk) s[m] = true) := fun m hm h => by
     rcases Nat.lt_or_ge m pos with h3 | h3
     ·exact HTo.out m hm h3
     ·exact hq.2 m hm h3 h
    clear HQ hq HH
    go_wp2_with (go_at_call 45; refine (HC.out ()).mono ?_; rintro e wq ⟨rfl, hw⟩; rw [hw]; clear hw)
    go_roundw
    case rel => exact ⟨pos + n, HIt.out, HB.out, h2, HN.out⟩
    case measure => rw [iterPos_of HIt.out, hpos0]; omega
   ·have HC : Hid (∀ _ : Unit, _) := fun _ => HH.out false hq.1 W1 HB.out
    have HV : Hid (spanN (notB mk) s.data.toList = pos) := span_whole (by omega) HTo.out (fun _ => hq.2)
    clear HQ hq HH
    go_wp2_with (go_at_call 45; refine (HC.out ()).mono ?_; rintro e wq ⟨rfl, hw⟩; rw [hw]; clear hw)
    go_ret
    rw [HV.out]
    exact ⟨rfl, HB.out⟩
  ·have hnx : ∀ ty, (Instr.next (.pointer (some ⟨w.heap.size, 0, none⟩)) true ty).run Tryz.prog wr = _ := fun ty => Lib.run_next_end_at wr w.heap.size s pos ty hit hp
   obtain rfl : pos = s.size := by omega
   have HV : Hid (spanN (notB mk) s.data.toList = s.size) := span_whole (Nat.le_refl _) HTo.out (fun h => absurd h (Nat.lt_irrefl _))
   go_wp2
   go_ret
   rw [HV.out]
   exact ⟨rfl, hbw⟩
theorem upTo_any (m : Nat) (hm : m < 128) (s : ByteArray) (w : World) (hs : s.size ≤ 1048576) :
  Calls Tryz.prog 19 #[.int .i32 m, .string s] w fun e w' => e = .returned (.int .i64 (spanN (notB m) s.data.toList)) ∧ Below w.heap.size w w' := by
 have hmf : ∀ (fn : Fn) (first cap : Array Value) (w : World), (Instr.makeFunc fn first cap).run Tryz.prog w = .ok (.func fn first cap) w := fun _ _ _ _ => rfl
 have B0 : Hid (Below w.heap.size w (w.alloc (.cells #[.int .i32 m] 21))) := (Below.refl _ _).alloc (Nat.le_refl _) _
 have HI : Hid (∀ _ : Unit, _) := fun _ => areNot m hm w.heap.size s (w.alloc (.cells #[.int .i32 m] 21)) hs (box10 _ _ _ 0 _ rfl)
 go_enter Tryz.func19, Tryz.ntmps19
 go_wp2_with (go_at_call 44; refine (HI.out ()).mono ?_; rintro e w1 ⟨rfl, hb1⟩)
 go_ret
 exact ⟨rfl, B0.out.trans (hb1.mono B0.out.size)⟩
theorem inner_any (m : Nat) (hm : m < 128) (t : ByteArray) (w : World) (h0 : 0 < t.size) (hs : t.size ≤ 1048576) :
  Calls Tryz.prog 48 #[.string t, .int .i32 m] w fun e w' => e = .returned (.tuple #[.string ((behT t).extract 0 (spanN (notB m) (behT t).data.toList)), .bool (decide (spanN (notB m) (behT t).data.toList < (behT t).size))]) ∧ Below w.heap.size w w' := by
 have hz := behT_size h0
 have hle := spanN_le (notB m) (behT t).data.toList
 rw [toList_size] at hle
 have HI : Hid (∀ W, _) := fun W => upTo_any m hm (behT t) W (by omega)
 have hsl : ∀ W : World, (Instr.slice 9 (.string t) (some (.int .i64 1)) none none).run Tryz.prog W = .ok (.string (behT t)) W := fun W => by
  rw [run_slice_string_from_if W 9 t .i64 1 Tryz.underlying9, if_pos ⟨by omega, by omega⟩]
  rfl
 generalize behT t = u at *
 generalize spanN (notB m) u.data.toList = n at *
 go_enter Tryz.func48, Tryz.ntmps48
 go_wp2_with (go_at_call 19; refine (HI.out _).mono ?_; rintro e w1 ⟨rfl, hb1⟩)
 go_ret2
 exact ⟨by simp; omega, hb1⟩
end Go.Proofs.YtccogaoabdpfmaaGreat

namespace Go.Proofs
open Go.Shelf
def Tryz.lays119_ren : Go.Shelf.Ren := ⟨fun | 119 => 92 | n => n, fun | 21 => 21 | 4 => 4 | n => n, fun | n => n⟩
theorem Tryz.lays119 : Go.Proofs.Lays.n119 Tryz.prog Tryz.lays119_ren := {
 mixed := by kernel_rfl
 f119 := Tryz.func92.trans (congrArg some (by kernel_rfl))
 t4 := Tryz.underlying4
 a4 := Tryz.isAgg4
 z4 := Tryz.sizeOf4
 v4 := Tryz.zeroValue4
 t21 := Tryz.underlying21
 a21 := Tryz.isAgg21
 z21 := Tryz.sizeOf21
 v21 := Tryz.zeroValue21 }
theorem Tryz.utf8_ValidRune (r : Int) (w : World) :
  Calls Tryz.prog 92 #[.int .i32 r] w fun e w' => e = .returned (.bool (Lib.validRune r)) ∧ w' = w := Any.utf8_ValidRune Tryz.lays119 r w
def Tryz.lays137_ren : Go.Shelf.Ren := ⟨fun | 137 => 91 | 217 => 104 | 266 => 108 | n => n, fun | 9 => 9 | 5 => 5 | 3 => 3 | n => n, fun | n => n⟩
theorem Tryz.lays137 : Go.Proofs.Lays.n137 Tryz.prog Tryz.lays137_ren := {
 mixed := by kernel_rfl
 f137 := Tryz.func91.trans (congrArg some (by kernel_rfl))
 f217 := Tryz.func104.trans (congrArg some (by kernel_rfl))
 f266 := Tryz.func108.trans (congrArg some (by kernel_rfl))
 t3 := Tryz.underlying3
 a3 := Tryz.isAgg3
 z3 := Tryz.sizeOf3
 v3 := Tryz.zeroValue3
 t5 := Tryz.underlying5
 a5 := Tryz.isAgg5
 z5 := Tryz.sizeOf5
 v5 := Tryz.zeroValue5
 t9 := Tryz.underlying9
 a9 := Tryz.isAgg9
 z9 := Tryz.sizeOf9
 v9 := Tryz.zeroValue9 }
open Go.RowKit in
theorem Tryz.strings_IndexByte (s : ByteArray) (c : Int) (w : World) :
  Calls Tryz.prog 91 #[.string s, .int .u8 c] w fun e w' => e = .returned (.int .i64 (Lib.indexByte s.data.toList c.toNat.toUInt8)) ∧ w' = w := Any.strings_IndexByte Tryz.lays137 s c w
def Tryz.laysM316_ren : Go.Shelf.Ren := ⟨fun | 316 => 75 | n => n, fun | 9 => 9 | 3 => 3 | 4 => 4 | 37 => 22 | 0 => 0 | 127 => 137 | 5 => 5 | n => n, fun | n => n⟩
theorem Tryz.laysM316 : Go.Proofs.LaysM.n316 Tryz.prog Tryz.laysM316_ren := {
 mixed := by kernel_rfl
 f316 := Tryz.func75.trans (congrArg some (by kernel_rfl))
 t0 := Tryz.underlying0
 a0 := Tryz.isAgg0
 z0 := Tryz.sizeOf0
 v0 := Tryz.zeroValue0
 t3 := Tryz.underlying3
 a3 := Tryz.isAgg3
 z3 := Tryz.sizeOf3
 v3 := Tryz.zeroValue3
 t4 := Tryz.underlying4
 a4 := Tryz.isAgg4
 z4 := Tryz.sizeOf4
 v4 := Tryz.zeroValue4
 t9 := Tryz.underlying9
 a9 := Tryz.isAgg9
 z9 := Tryz.sizeOf9
 v9 := Tryz.zeroValue9
 t37 := Tryz.underlying22
 a37 := Tryz.isAgg22
 z37 := Tryz.sizeOf22
 v37 := Tryz.zeroValue22
 t127 := Tryz.underlying137
 a127 := Tryz.isAgg137
 z127 := Tryz.sizeOf137
 v127 := Tryz.zeroValue137
 t5 := Tryz.underlying5
 a5 := Tryz.isAgg5
 z5 := Tryz.sizeOf5
 v5 := Tryz.zeroValue5
 i0 := by kernel_rfl
 i3 := by kernel_rfl
 i4 := by kernel_rfl
 i5 := by kernel_rfl
 i9 := by kernel_rfl
 i37 := by kernel_rfl
 i127 := by kernel_rfl }
open Go.RowKit in
theorem Tryz.stringslite_Clone (s : ByteArray) (w : World) (hlim : s.size ≤ 281474976710656) :
  Calls Tryz.prog 75 #[.string s] w fun e w' => e = .returned (.string s) ∧ Below w.heap.size w w' := Any.stringslite_Clone Tryz.laysM316 s w hlim
def Tryz.lays206_ren : Go.Shelf.Ren := ⟨fun | 206 => 77 | n => n, fun | 9 => 9 | 4 => 4 | 3 => 3 | n => n, fun | n => n⟩
def Tryz.lays99_ren : Go.Shelf.Ren := ⟨fun | 99 => 50 | 206 => 77 | n => n, fun | 9 => 9 | 4 => 4 | 3 => 3 | n => n, fun | n => n⟩
theorem Tryz.lays99 : Go.Proofs.Lays.n99 Tryz.prog Tryz.lays99_ren := {
 mixed := by kernel_rfl
 f99 := Tryz.func50.trans (congrArg some (by kernel_rfl))
 f206 := Tryz.func77.trans (congrArg some (by kernel_rfl))
 t3 := Tryz.underlying3
 a3 := Tryz.isAgg3
 z3 := Tryz.sizeOf3
 v3 := Tryz.zeroValue3
 t4 := Tryz.underlying4
 a4 := Tryz.isAgg4
 z4 := Tryz.sizeOf4
 v4 := Tryz.zeroValue4
 t9 := Tryz.underlying9
 a9 := Tryz.isAgg9
 z9 := Tryz.sizeOf9
 v9 := Tryz.zeroValue9 }
open Go.RowKit Go.Lib in
theorem Tryz.strings_HasPrefix (s p : ByteArray) (w : World) :
  Calls Tryz.prog 50 #[.string s, .string p] w fun e w' => e = .returned (.bool (Lib.hasPrefix s.data.toList p.data.toList)) ∧ w' = w := Any.strings_HasPrefix Tryz.lays99 s p w
def Tryz.lays151_ren : Go.Shelf.Ren := ⟨fun | 151 => 51 | 152 => 78 | 137 => 91 | 119 => 92 | 224 => 93 | 225 => 94 | 217 => 104 | 266 => 108 | n => n, fun | 9 => 9 | 21 => 21 | 4 => 4 | 3 => 3 | 5 => 5 | 0 => 0 | 46 => 141 | n => n, fun | n => n⟩
theorem Tryz.lays151 : Go.Proofs.Lays.n151 Tryz.prog Tryz.lays151_ren := {
 mixed := by kernel_rfl
 f119 := Tryz.func92.trans (congrArg some (by kernel_rfl))
 f137 := Tryz.func91.trans (congrArg some (by kernel_rfl))
 f151 := Tryz.func51.trans (congrArg some (by kernel_rfl))
 f152 := Tryz.func78.trans (congrArg some (by kernel_rfl))
 f217 := Tryz.func104.trans (congrArg some (by kernel_rfl))
 f224 := Tryz.func93.trans (congrArg some (by kernel_rfl))
 f225 := Tryz.func94.trans (congrArg some (by kernel_rfl))
 f266 := Tryz.func108.trans (congrArg some (by kernel_rfl))
 t0 := Tryz.underlying0
 a0 := Tryz.isAgg0
 z0 := Tryz.sizeOf0
 v0 := Tryz.zeroValue0
 t3 := Tryz.underlying3
 a3 := Tryz.isAgg3
 z3 := Tryz.sizeOf3
 v3 := Tryz.zeroValue3
 t4 := Tryz.underlying4
 a4 := Tryz.isAgg4
 z4 := Tryz.sizeOf4
 v4 := Tryz.zeroValue4
 t5 := Tryz.underlying5
 a5 := Tryz.isAgg5
 z5 := Tryz.sizeOf5
 v5 := Tryz.zeroValue5
 t9 := Tryz.underlying9
 a9 := Tryz.isAgg9
 z9 := Tryz.sizeOf9
 v9 := Tryz.zeroValue9
 t21 := Tryz.underlying21
 a21 := Tryz.isAgg21
 z21 := Tryz.sizeOf21
 v21 := Tryz.zeroValue21
 t46 := Tryz.underlying141
 a46 := Tryz.isAgg141
 z46 := Tryz.sizeOf141
 v46 := Tryz.zeroValue141 }
open Go.RowKit Go.Lib in
theorem Tryz.strings_ContainsRune_ascii (s : ByteArray) (r : Int) (w : World) (h0 : 0 ≤ r) (h1 : r < 128) :
  Calls Tryz.prog 51 #[.string s, .int .i32 r] w fun e w' => e = .returned (.bool (decide (0 ≤ Lib.indexByte s.data.toList r.toNat.toUInt8))) ∧ w' = w := Any.strings_ContainsRune_ascii Tryz.lays151 s r w h0 h1
end Go.Proofs
