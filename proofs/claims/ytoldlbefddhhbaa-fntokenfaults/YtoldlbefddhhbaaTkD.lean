/- The verifier's texts of grammars: one of thirteen, parted into the grammar's text and its letters. -/
import Derived.Test.YtoldlbefddhhbaaDraw3
namespace Go.Proofs.Ytoldlbefddhhbaa
open Go.RowKit
set_option linter.unusedVariables false

/-- Each cell a text that is not empty and no longer than m. -/
def textsIn (m : Nat) (cs : Array Value) : Bool := cs.toList.all fun v => match v with | .string s => decide (s.size ≤ m) | _ => false
theorem textsIn_at {m : Nat} {cs : Array Value} (h : textsIn m cs = true) {i : Nat} (hi : i < cs.size) : ∃ s : ByteArray, cs[i]? = some (.string s) ∧ s.size ≤ m := by
  unfold textsIn at h
  rw [List.all_eq_true] at h
  have := h cs[i] (Array.getElem_mem_toList hi)
  rw [Array.getElem?_eq_getElem hi]
  generalize cs[i] = v at *
  cases v <;> simp at this ⊢
  exact this
theorem texts_row (w : World) (cs : Array Value) (t : TypeId) (m : Nat) (h : textsIn m cs = true) : ∀ i, i < cs.size → ∃ y : ByteArray, (w.alloc (.cells cs t)).cell? ⟨w.heap.size, i, none⟩ = some (.string y) ∧ y.size ≤ m := by
  intro i hi
  obtain ⟨s, h1, h2⟩ := textsIn_at h hi
  refine ⟨s, ?_, h2⟩
  have := World.news_of_block (heap_alloc_new w (.cells cs t)) i (.string s) (by simpa using h1)
  rw [Addr.add_lit, Nat.zero_add] at this
  exact this

set_option maxRecDepth 100000 in
theorem list11_any (w : World) :
    Calls Try.prog 47 #[] w fun e w' => ∃ cs : Array Value, e = .returned (.slice (some ⟨w.heap.size, 0, none⟩) 13 13) ∧ cs.size = 13 ∧ textsIn 200 cs = true ∧ w' = w.alloc (.cells cs 9) := by
  go_enter Try.func47, Try.ntmps47
  go_wp2
  go_ret
  exact ⟨_, rfl, rfl, by decide +kernel, rfl⟩

set_option maxHeartbeats 800000 in
set_option maxRecDepth 100000 in
theorem split11_any (k : Int) (w : World) (h0 : 0 ≤ k) (h1 : k < 13) :
    Calls Try.prog 36 #[.int .i64 k] w fun e w' => ∃ s t : ByteArray, e = .returned (.tuple #[.string s, .string t]) ∧ s.size ≤ 200 ∧ t.size ≤ 200 ∧ Below w.heap.size w w' := by
  go_enter Try.func36, Try.ntmps36
  go_wp2_with fail
  refine (list11_any _).mono ?_
  rintro e w1 ⟨cs, rfl, hn, ht, rfl⟩
  obtain ⟨m, rfl⟩ := Int.eq_ofNat_of_zero_le h0
  obtain ⟨s, hs, hz⟩ := texts_row w cs 9 200 ht m (by omega)
  have HB : Hid (Below w.heap.size w (w.alloc (.cells cs 9))) := (Below.refl _ _).alloc (Nat.le_refl _) _
  generalize w.alloc (.cells cs 9) = w1 at *
  have hk : (m : Int).tmod 13 = (m : Int) := by rw [Int.tmod_eq_emod_of_nonneg (by omega)]; omega
  clear ht hn
  go_wp2
  go_loop [6] (fun iv => ∃ i : Int, iv = .int .i64 i ∧ -1 ≤ i ∧ i < s.size) (fun iv => (intOf iv + 1).toNat)
  case atStart => exact ⟨_, rfl, by omega, by omega⟩
  case round =>
    obtain ⟨i, rfl, hi0, hi1⟩ := hrel
    by_cases hneg : 0 ≤ i
    · obtain ⟨j, rfl⟩ := Int.eq_ofNat_of_zero_le hneg
      have hj : j < s.size := by omega
      have hu := s[j].toNat_lt
      by_cases hb : s[j].toNat = 124
      · have q : ((s[j].toNat : Int) == 124) = true := by rw [beq_iff_eq]; omega
        go_wp2
        go_region
        go_wp2
        go_ret2
        exact ⟨_, _, rfl, by simp [ByteArray.size_extract]; omega, by simp [ByteArray.size_extract]; omega, ⟨HB.out.os, HB.out.tape, HB.out.output, HB.out.size, HB.out.block⟩⟩
      · have q : ((s[j].toNat : Int) == 124) = false := by rw [beq_eq_false_iff_ne]; omega
        go_wp2
        go_round
        case rel => exact ⟨(j : Int) - 1, rfl, by omega, by omega⟩
        case measure => simp [intOf]
    · obtain rfl : i = -1 := by omega
      go_wp2
      go_ret2
      exact ⟨_, _, rfl, hz, by decide, HB.out⟩

end Go.Proofs.Ytoldlbefddhhbaa
