/- strings.IndexRune at the signs, at a rune of 128 or more; strings.ContainsRune there. -/
import Derived.Test.YtoldlbefddhhbaaTkC
namespace Go.Proofs.Ytoldlbefddhhbaa
open Go.RowKit
set_option linter.unusedVariables false

def signsT : ByteArray := ⟨#[40, 41, 123, 125, 124, 42, 43, 63, 58, 44, 59, 61, 64, 45, 47, 60, 38, 33]⟩
theorem signsT_size : signsT.size = 18 := rfl
theorem signsT_low : ∀ k (h : k < signsT.size), signsT[k].toNat < 128 := by decide
theorem idx_none (c : UInt8) : ∀ (l : List UInt8), (∀ b ∈ l, b ≠ c) → Lib.indexByte l c = -1
  | [], _ => rfl
  | b :: l, h => by
    have h1 := idx_none c l (fun x hx => h x (List.mem_cons_of_mem _ hx))
    have h2 := h b (List.mem_cons_self ..)
    simp [Lib.indexByte, h1, h2]
theorem idx_ge (c : UInt8) : ∀ (l : List UInt8), -1 ≤ Lib.indexByte l c
  | [] => by simp [Lib.indexByte]
  | b :: l => by
    have ih := idx_ge c l
    rw [Lib.indexByte]
    split
    · omega
    · split <;> omega
theorem idx_has (c : UInt8) : ∀ (l : List UInt8), decide (0 ≤ Lib.indexByte l c) = l.contains c
  | [] => rfl
  | b :: l => by
    have ih := idx_has c l
    have hge := idx_ge c l
    by_cases hb : b = c
    · subst hb
      simp [Lib.indexByte]
    · have hb' : ¬ c = b := fun e => hb e.symm
      have e1 : (b :: l).contains c = l.contains c := by simp [hb']
      rw [e1, ← ih]
      have e2 : Lib.indexByte (b :: l) c = if (Lib.indexByte l c == -1) = true then -1 else Lib.indexByte l c + 1 := by
        rw [Lib.indexByte, if_neg (by simpa using hb)]
      rw [e2]
      by_cases hi : Lib.indexByte l c = -1
      · rw [if_pos (by simpa using hi), hi]
      · rw [if_neg (by simpa using hi), decide_eq_true (by omega), decide_eq_true (by omega)]

set_option maxHeartbeats 3200000 in
set_option maxRecDepth 100000 in
theorem idxRune_last (sg : ByteArray) (hsz : sg.size = 18) (HLow : Hid (∀ k (h : k < sg.size), sg[k].toNat < 128)) (HNo : Hid (∀ (c : UInt8) (i : Nat), 128 ≤ c.toNat → Lib.indexByte (sg.extract i sg.size).data.toList c = -1))
    (r : Nat) (h128 : 128 ≤ r) (he : ¬ r = 65533) (rs : ByteArray) (L : Nat) (f1 : 2 ≤ rs.size) (f2 : rs.size ≤ 4) (hL2 : rs.size = L + 1) (hLL : L < rs.size) (hL : 128 ≤ rs[L].toNat)
    (hcv : ∀ W : World, (convert 21 9 (.int .i32 (r : Int))).run Try.prog W = .ok (.string rs) W)
    (HV : Hid (∀ W : World, Calls Try.prog 56 #[.int .i32 (r : Int)] W fun e w' => e = .returned (.bool true) ∧ w' = W)) (w : World) :
    Calls Try.prog 52 #[.string sg, .int .i32 r] w fun e w' => e = .returned (.int .i64 (-1)) ∧ Below w.heap.size w w' := by
  have d0 : decide ((0 : Int) ≤ (r : Int)) = true := by rw [decide_eq_true]; omega
  have d1 : decide ((r : Int) < 128) = false := by rw [decide_eq_false]; omega
  have d1' : ¬ r < 128 := by omega
  have q3 : ((r : Int) == 65533) = false := by rw [beq_eq_false_iff_ne]; omega
  have j0 : L < sg.size := by omega
  have hlow := HLow.out L j0
  have HIx : Hid (∀ W, _) := fun W => Try.strings_IndexByte (sg.extract (L + 1) sg.size) (rs[L].toNat : Int) W
  have e1 : ((rs[L].toNat : Int)).toNat.toUInt8 = rs[L] := by simp
  rw [e1, HNo.out rs[L] (L + 1) hL] at HIx
  have i1 : (L : Int) < (sg.size : Int) := by omega
  have i2 : (L : Int) < (rs.size : Int) := by omega
  have w1 : IntKind.i64.wrap ((rs.size : Int) - 1) = (L : Int) := by rw [IntKind.wrap_i64]; omega
  have w2 : IntKind.i64.wrap ((L : Int) + 1) = (L : Int) + 1 := by rw [IntKind.wrap_i64]; omega
  have hu1 := sg[L].toNat_lt
  have hu2 := rs[L].toNat_lt
  have q5 : ((sg[L].toNat : Int) != (rs[L].toNat : Int)) = true := by simp; omega
  have HZ : Hid (rs.size = L + 1) := hL2
  have HS : Hid (sg.size = 18) := hsz
  have j1 : (0 : Int) ≤ (L : Int) + 1 := by omega
  have j2 : (L : Int) + 1 ≤ (sg.size : Int) := by omega
  have hsl : ∀ W : World, (Instr.slice 9 (.string sg) (some (.int .i64 ((L : Int) + 1))) none none).run Try.prog W = .ok (.string (sg.extract (L + 1) sg.size)) W := fun W => by
    rw [run_slice_string_from_if W 9 sg .i64 ((L : Int) + 1) Try.underlying9, if_pos ⟨j1, j2⟩]
    rfl
  clear hL2 hsz HLow HNo e1 he
  go_enter Try.func52, Try.ntmps52
  go_wp2_with (go_at_call 56; refine (HV.out _).mono ?_; rintro e wq ⟨rfl, hw⟩; rw [hw]; clear hw)
  go_step3
  go_wp2
  go_loopw [9] (fun iv wr => iv = .int .i64 (L : Int) ∧ wr = w) (fun _ _ => 0)
  case atStart => exact ⟨by first | rfl | (simp [w1]), rfl⟩
  case round =>
    obtain ⟨rfl, hwr⟩ := hrel
    rw [hwr]
    clear hwr
    go_wp2
    go_step3
    go_wp2_with (fail)
    go_quiet (fail)
    go_wp2_with (fail)
    have BQ : Hid (Below w.heap.size w (w.drewN nq)) := bel_drewN (Below.refl _ _) _
    generalize w.drewN nq = W1 at *
    go_quiet ((go_at_call 55; refine Calls.quiet_of_same (HIx.out _)))
    go_wp2
    (try rw [Exit.noGoto_ret])
    (try go_wp2)
    (try rw [Exit.noGoto_ret])
    go_ret
    exact ⟨rfl, bel_drewN BQ.out _⟩

set_option maxHeartbeats 3200000 in
set_option maxRecDepth 100000 in
theorem idxRune_high (r : Nat) (h128 : 128 ≤ r) (w : World) :
    Calls Try.prog 52 #[.string signsT, .int .i32 r] w fun e w' => e = .returned (.int .i64 (-1)) ∧ Below w.heap.size w w' := by
  have hsz := signsT_size
  have HLow : Hid (∀ k (h : k < signsT.size), signsT[k].toNat < 128) := signsT_low
  have HNo : Hid (∀ (c : UInt8) (i : Nat), 128 ≤ c.toNat → Lib.indexByte (signsT.extract i signsT.size).data.toList c = -1) := fun c i hc => idx_none c _ (fun b hb e => by
    have h1 := mem_extract hb
    obtain ⟨k, hk, rfl⟩ := List.getElem_of_mem h1
    have h2 := signsT_low k (by rw [← toList_size]; exact hk)
    have h3 : signsT.data.toList[k] = signsT[k]'(by rw [← toList_size]; exact hk) := rfl
    rw [h3] at e
    rw [e] at h2
    omega)
  have d0 : decide ((0 : Int) ≤ (r : Int)) = true := by rw [decide_eq_true]; omega
  have d1 : decide ((r : Int) < 128) = false := by rw [decide_eq_false]; omega
  have d1' : ¬ r < 128 := by omega
  generalize signsT = sg at *
  by_cases he : r = 65533
  · subst he
    go_enter Try.func52, Try.ntmps52
    go_wp2
    go_loopw [4] (fun _ wr => ∃ pos : Nat, wr.heap[w.heap.size]? = some (.stringIter sg pos) ∧ Below w.heap.size w wr ∧ pos ≤ sg.size) (fun _ wr => sg.size - wr.iterPos w.heap.size)
    case atStart => exact ⟨0, World.iter_heap w sg 0, (Below.refl _ _).alloc (Nat.le_refl _) _, Nat.zero_le _⟩
    case round =>
      obtain ⟨pos, hit, hbw, hpos⟩ := hrel
      have hpos0 := iterPos_of hit
      by_cases hp : pos < sg.size
      · have hlow := HLow.out pos hp
        have hnx : ∀ ty, (Instr.next (.pointer (some ⟨w.heap.size, 0, none⟩)) true ty).run Try.prog wr = _ := fun ty => Lib.run_next_ascii_at wr w.heap.size sg pos ty hit hp hlow
        have HIt : Hid ((wr.iterAt w.heap.size sg (pos + 1)).heap[w.heap.size]? = some (.stringIter sg (pos + 1))) := Lib.iterAt_heap wr w.heap.size sg pos (pos + 1) hit
        have HB : Hid (Below w.heap.size w (wr.iterAt w.heap.size sg (pos + 1))) := Lib.below_iterAt hbw (k := w.heap.size) (Nat.le_refl _) sg (pos + 1)
        have hq : ((sg[pos].toNat : Int) == 65533) = false := by rw [beq_eq_false_iff_ne]; omega
        generalize wr.iterAt w.heap.size sg (pos + 1) = W1 at *
        clear hit hbw
        go_wp2
        go_roundw
        case rel => exact ⟨pos + 1, HIt.out, HB.out, by omega⟩
        case measure => rw [iterPos_of HIt.out, hpos0]; omega
      · have hnx : ∀ ty, (Instr.next (.pointer (some ⟨w.heap.size, 0, none⟩)) true ty).run Try.prog wr = _ := fun ty => Lib.run_next_end_at wr w.heap.size sg pos ty hit hp
        go_wp2
        go_ret
        exact ⟨rfl, hbw⟩
  have q3 : ((r : Int) == 65533) = false := by rw [beq_eq_false_iff_ne]; omega
  have HV : Hid (∀ W, _) := fun W => Try.utf8_ValidRune (r : Int) W
  cases hv : Lib.validRune (r : Int) with
  | false =>
    rw [hv] at HV
    go_enter Try.func52, Try.ntmps52
    go_wp2_with (go_at_call 56; refine (HV.out _).mono ?_; rintro e wq ⟨rfl, hw⟩; rw [hw]; clear hw)
    go_ret
    exact ⟨rfl, Below.refl _ _⟩
  | true =>
    rw [hv] at HV
    obtain ⟨f1, f2, f3⟩ := encode_facts (r : Int) (by rw [validRune_eq]; exact hv) (by omega)
    have hcv : ∀ W : World, (convert 21 9 (.int .i32 (r : Int))).run Try.prog W = .ok (.string (Utf8.encode (r : Int))) W := fun W => run_convert_int_string W 21 9 .i32 (r : Int) (by kernel_rfl) Try.underlying9
    generalize hLe : (Utf8.encode (r : Int)).size - 1 = L at f3
    clear hv
    exact idxRune_last sg hsz HLow HNo r h128 he _ L f1 f2 (by omega) (by omega) (f3 (by omega)) hcv HV w

def signB (r : Nat) : Bool := decide (r < 128) && signsL.contains (UInt8.ofNat r)
theorem contains_any (r : Nat) (w : World) : Calls Try.prog 46 #[.string signsT, .int .i32 r] w fun e w' => e = .returned (.bool (signB r)) ∧ Below w.heap.size w w' := by
  by_cases h : r < 128
  · have HV : Hid (decide (0 ≤ Lib.indexByte signsT.data.toList (r : Int).toNat.toUInt8) = signB r) := by
      rw [Hid, idx_has, signB, decide_eq_true h]
      rfl
    refine (Try.strings_ContainsRune_ascii signsT (r : Int) w (by omega) (by omega)).mono ?_
    rintro e w' ⟨rfl, rfl⟩
    rw [HV.out]
    exact ⟨rfl, Below.refl _ _⟩
  · have HV : Hid (signB r = false) := by rw [Hid, signB, decide_eq_false h]; rfl
    have HI : Hid (∀ W, _) := fun W => idxRune_high r (by omega) W
    generalize signsT = sg at *
    rw [HV.out]
    go_enter Try.func46, Try.ntmps46
    go_wp2_with (go_at_call 52; refine (HI.out _).mono ?_; rintro e w1 ⟨rfl, hb1⟩)
    go_ret
    exact ⟨rfl, hb1⟩

end Go.Proofs.Ytoldlbefddhhbaa
